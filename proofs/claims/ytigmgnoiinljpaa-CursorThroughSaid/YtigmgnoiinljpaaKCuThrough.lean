/- Through any edit each place goes where the document says; places keep their order; turned ahead, or behind, it is the same: it answers true and changes nothing. No condition. (Merged of 2 texts.) -/
import Derived.Test.YtigmgnoiinljpaaKLo
import Derived.ChangeMaps5
/- CursorThrough, walked: through any edit each place goes where the document says; places keep their order; turned ahead, or behind, it is the same. Condition: what memory may hold. -/
namespace Go.Proofs.Ytigmgnoiinljpaa
open Go.RowKit Go.Deep Ieee
attribute [-go_sem] binOp_float_cmp_eql binOp_float_cmp_neq binOp_float_cmp_lss binOp_float_cmp_leq binOp_float_cmp_gtr binOp_float_cmp_geq run_eql_complex run_neq_complex
attribute [local irreducible] floatOfInt

theorem kRefBase {l : List CompV} {n : Int} (h : rBase l = n) (hl : Held1 l) (A : Option Addr) (c : Nat) (w : World) (hA : CompsC w A c l) :
    Calls Try.prog 17 #[.slice A l.length c] w fun e w' => e = .returned (.int .i64 n) ∧ Below w.heap.size w w' := by
  refine (refBase_any A c l hl.max w hA.1).mono ?_
  rintro e w' ⟨rfl, rfl⟩
  rw [h]
  exact ⟨rfl, Below.refl _ _⟩
set_option maxHeartbeats 16000000 in
set_option maxRecDepth 100000 in
theorem thr_bad (x y : Int) (A : Option Addr) (l : List CompV) (c : Nat) (after : Bool) (hx0 : 0 ≤ x) (hx1 : x ≤ 3000) (hy0 : 0 ≤ y) (hy1 : y ≤ 3000) {q : Nat} (hq : rCheck l = q) (h0 : q ≠ 0) {T : Nat} (hT : (T : Int) ≤ 2000) (GW : Hid (∀ w, CompsC w A c l → Calls Try.prog 14 #[.slice A l.length c, .int .i64 2000] w fun e w' => e = .returned (.int .i64 (T : Int)) ∧ Below w.heap.size w w')) (hh : Held1 l) (w : World) (HA : Hid (CompsC w A c l)) :
    Calls Try.prog 5 #[.int .i64 x, .int .i64 y, .slice A l.length c, .bool after] w fun e w' => e = .returned (.bool true) ∧ Below w.heap.size w w' := by
  have GA := Lib.hid (fun w => curAwake_any w)
  have HW0 := Lib.hid (Below.refl w.heap.size w)
  have G1 := Lib.hid (fun w => of_yes hx0 (by omega) hy0 (by omega) w)
  have GT := Lib.hid (fun a b w h => through_bad (a := a) (b := b) after A c l hq h0 hh w h)
  replace GT := Lib.hid (GT.out (floatOfInt .f64 x) (floatOfInt .f64 y))
  have GC := Lib.hid (fun w h => kRefCheck hq hh A c w h)
  have h1 : 0 < (q : Int) := by omega
  clear hq hh
  go_enter Try.func5, Try.ntmps5
  go_wp2_with fail
  refine (GW.out _ HA.out).mono ?_
  rintro e w1 ⟨rfl, hb⟩
  have HW1 : Hid (Below w.heap.size w w1) := HW0.out.trans (hb.mono HW0.out.size)
  replace HA := Lib.hid (HA.out.below hb)
  clear hb
  go_wp2_with fail
  refine (G1.out _).mono ?_
  rintro e v ⟨rfl, rfl⟩
  go_wp2_with fail
  refine (GT.out _ HA.out).mono ?_
  rintro e w2 ⟨rfl, hb⟩
  have HW2 : Hid (Below w.heap.size w w2) := HW1.out.trans (hb.mono HW1.out.size)
  replace HA := Lib.hid (HA.out.below hb)
  clear hb
  go_wp2_with fail
  refine (GC.out _ HA.out).mono ?_
  rintro e w3 ⟨rfl, hb⟩
  have HW3 : Hid (Below w.heap.size w w3) := HW2.out.trans (hb.mono HW2.out.size)
  replace HA := Lib.hid (HA.out.below hb)
  clear hb
  go_wp2_with fail
  refine (GA.out _).mono ?_
  rintro e w4 ⟨rfl, hb⟩
  have HW4 : Hid (Below w.heap.size w w4) := HW3.out.trans (hb.mono HW3.out.size)
  replace HA := Lib.hid (HA.out.below hb)
  clear hb
  go_wp2
  go_ret
  exact ⟨rfl, HW4.out⟩
set_option maxHeartbeats 16000000 in
set_option maxRecDepth 100000 in
theorem thr_far (x y : Int) (A : Option Addr) (l : List CompV) (c : Nat) (after : Bool) (hx0 : 0 ≤ x) (hx1 : x ≤ 3000) (hy0 : 0 ≤ y) (hy1 : y ≤ 3000) (hq : rCheck l = 0) {n : Int} (hn : rBase l = n) (hf : ¬ max x y ≤ n) {T : Nat} (hT : (T : Int) ≤ 2000) (GW : Hid (∀ w, CompsC w A c l → Calls Try.prog 14 #[.slice A l.length c, .int .i64 2000] w fun e w' => e = .returned (.int .i64 (T : Int)) ∧ Below w.heap.size w w')) (hh : Held1 l) (w : World) (HA : Hid (CompsC w A c l)) :
    Calls Try.prog 5 #[.int .i64 x, .int .i64 y, .slice A l.length c, .bool after] w fun e w' => e = .returned (.bool true) ∧ Below w.heap.size w w' := by
  have GA := Lib.hid (fun w => curAwake_any w)
  have HW0 := Lib.hid (Below.refl w.heap.size w)
  have G1 := Lib.hid (fun w => of_yes hx0 (by omega) hy0 (by omega) w)
  have GT := Lib.hid (fun w h => through_far (sel_mk hx0 (by omega) hy0 (by omega)) after A c l hq hn hf hh w h)
  have GC := Lib.hid (fun w h => kRefCheck hq hh A c w h)
  have GB := Lib.hid (fun w h => kRefBase hn hh A c w h)
  clear hq hh hn
  by_cases g1 : n < x
  · go_enter Try.func5, Try.ntmps5
    go_wp2_with fail
    refine (GW.out _ HA.out).mono ?_
    rintro e w1 ⟨rfl, hb⟩
    have HW1 : Hid (Below w.heap.size w w1) := HW0.out.trans (hb.mono HW0.out.size)
    replace HA := Lib.hid (HA.out.below hb)
    clear hb
    go_wp2_with fail
    refine (G1.out _).mono ?_
    rintro e v ⟨rfl, rfl⟩
    go_wp2_with fail
    refine (GT.out _ HA.out).mono ?_
    rintro e w2 ⟨rfl, hb⟩
    have HW2 : Hid (Below w.heap.size w w2) := HW1.out.trans (hb.mono HW1.out.size)
    replace HA := Lib.hid (HA.out.below hb)
    clear hb
    go_wp2_with fail
    refine (GC.out _ HA.out).mono ?_
    rintro e w3 ⟨rfl, hb⟩
    have HW3 : Hid (Below w.heap.size w w3) := HW2.out.trans (hb.mono HW2.out.size)
    replace HA := Lib.hid (HA.out.below hb)
    clear hb
    go_wp2_with fail
    refine (GB.out _ HA.out).mono ?_
    rintro e w4 ⟨rfl, hb⟩
    have HW4 : Hid (Below w.heap.size w w4) := HW3.out.trans (hb.mono HW3.out.size)
    replace HA := Lib.hid (HA.out.below hb)
    clear hb
    go_wp2_with fail
    refine (GA.out _).mono ?_
    rintro e w5 ⟨rfl, hb⟩
    have HW5 : Hid (Below w.heap.size w w5) := HW4.out.trans (hb.mono HW4.out.size)
    replace HA := Lib.hid (HA.out.below hb)
    clear hb
    go_wp2
    go_ret
    exact ⟨rfl, HW5.out⟩
  · have g2 : n < y := by omega
    go_enter Try.func5, Try.ntmps5
    go_wp2_with fail
    refine (GW.out _ HA.out).mono ?_
    rintro e w1 ⟨rfl, hb⟩
    have HW1 : Hid (Below w.heap.size w w1) := HW0.out.trans (hb.mono HW0.out.size)
    replace HA := Lib.hid (HA.out.below hb)
    clear hb
    go_wp2_with fail
    refine (G1.out _).mono ?_
    rintro e v ⟨rfl, rfl⟩
    go_wp2_with fail
    refine (GT.out _ HA.out).mono ?_
    rintro e w2 ⟨rfl, hb⟩
    have HW2 : Hid (Below w.heap.size w w2) := HW1.out.trans (hb.mono HW1.out.size)
    replace HA := Lib.hid (HA.out.below hb)
    clear hb
    go_wp2_with fail
    refine (GC.out _ HA.out).mono ?_
    rintro e w3 ⟨rfl, hb⟩
    have HW3 : Hid (Below w.heap.size w w3) := HW2.out.trans (hb.mono HW2.out.size)
    replace HA := Lib.hid (HA.out.below hb)
    clear hb
    go_wp2_with fail
    refine (GB.out _ HA.out).mono ?_
    rintro e w4 ⟨rfl, hb⟩
    have HW4 : Hid (Below w.heap.size w w4) := HW3.out.trans (hb.mono HW3.out.size)
    replace HA := Lib.hid (HA.out.below hb)
    clear hb
    go_wp2_with fail
    refine (GA.out _).mono ?_
    rintro e w5 ⟨rfl, hb⟩
    have HW5 : Hid (Below w.heap.size w w5) := HW4.out.trans (hb.mono HW4.out.size)
    replace HA := Lib.hid (HA.out.below hb)
    clear hb
    go_wp2
    go_ret
    exact ⟨rfl, HW5.out⟩
set_option maxHeartbeats 16000000 in
set_option maxRecDepth 100000 in
theorem thr_in (x y : Int) (A : Option Addr) (l : List CompV) (c : Nat) (after : Bool) (hx0 : 0 ≤ x) (hx1 : x ≤ 3000) (hy0 : 0 ≤ y) (hy1 : y ≤ 3000) (hq : rCheck l = 0) {n : Int} (hn : rBase l = n) (hf : max x y ≤ n) {T : Nat} (hT : (T : Int) ≤ 2000) (GW : Hid (∀ w, CompsC w A c l → Calls Try.prog 14 #[.slice A l.length c, .int .i64 2000] w fun e w' => e = .returned (.int .i64 (T : Int)) ∧ Below w.heap.size w w')) (hh : Held1 l) (w : World) (HA : Hid (CompsC w A c l)) :
    Calls Try.prog 5 #[.int .i64 x, .int .i64 y, .slice A l.length c, .bool after] w fun e w' => e = .returned (.bool true) ∧ Below w.heap.size w w' := by
  have GA := Lib.hid (fun w => curAwake_any w)
  have HW0 := Lib.hid (Below.refl w.heap.size w)
  have h20 := (check_zero hq).2.2.1
  rw [hn] at h20
  have hok := ok_of hq
  have hs := sel_mk hx0 (by omega) hy0 (by omega)
  have hin : (inS l : Int) = n := by have := hok.base; omega
  have hout := hok.out
  have G1 := Lib.hid (fun w => of_yes hx0 (by omega) hy0 (by omega) w)
  have GT := Lib.hid (fun w h => through_yes hs after A c l hq hn hf hh w h)
  have GT2 := Lib.hid (fun a b (h2 : Sel a b y x) w h => through_yes h2 after A c l hq hn (by omega) hh w h)
  have GC := Lib.hid (fun w h => kRefCheck hq hh A c w h)
  have GB := Lib.hid (fun w h => kRefBase hn hh A c w h)
  have GU := Lib.hid (fun w => turn_yes hs w)
  have GX := Lib.hid (fun w (h : CompsC w A c l) => refThrough_any x hx0 (by omega) after A c l hq hh.text w h.1)
  have GY := Lib.hid (fun w (h : CompsC w A c l) => refThrough_any y hy0 (by omega) after A c l hq hh.text w h.1)
  have hb1 := thr_sel hq after x
  have hb2 := thr_sel hq after y
  have HM := Lib.hid (show x ≤ y → rThrough x after l ≤ rThrough y after l by rw [rThrough_thr, rThrough_thr]; exact thr_mono after l)
  have hle : rThrough x after l ≤ outS l := by rw [rThrough_thr]; exact (thr_le after l x hok.wh).2
  have HZ := Lib.hid (show x = 0 → after = false → rThrough x after l = 0 from fun h1 h2 => by rw [rThrough_thr]; exact thr_first after l x hok.wh (by omega) (fun _ => h2))
  have HE := Lib.hid (show x = n → after = true → rThrough x after l = outS l from fun h1 h2 => by rw [rThrough_thr]; exact thr_last after l x hok.wh (by omega) (fun _ => h2))
  have GO := Lib.hid (fun w (h : CompsC w A c l) => opOut_any A c l hh.max hh.fine w h.1)
  rw [hout] at GO
  generalize (outS l : Int) = O at GO HE hle
  generalize rThrough x after l = th at GT GT2 GX HM HZ HE hb1 hle
  generalize rThrough y after l = tk at GT GT2 GY HM hb2
  have GP := Lib.hid (fun a b (h : Sel a b th tk) w => places_yes h w)
  have GTD := Lib.hid (fun a b (h : Sel a b th tk) w => turn_yes h w)
  obtain ⟨hb3, hb4⟩ := hb1
  obtain ⟨hb5, hb6⟩ := hb2
  have hf1 : x ≤ n := by omega
  have hf2 : y ≤ n := by omega
  clear hq hh hn hf h20 hok hs hin hout
  go_enter Try.func5, Try.ntmps5
  go_wp2_with fail
  refine (GW.out _ HA.out).mono ?_
  rintro e w1 ⟨rfl, hb⟩
  have HW1 : Hid (Below w.heap.size w w1) := HW0.out.trans (hb.mono HW0.out.size)
  replace HA := Lib.hid (HA.out.below hb)
  clear hb
  go_wp2_with fail
  refine (G1.out _).mono ?_
  rintro e v ⟨rfl, rfl⟩
  go_wp2_with fail
  refine (GT.out _ HA.out).mono ?_
  rintro e w2 ⟨⟨p, q, rfl, hp⟩, hb⟩
  have HW2 : Hid (Below w.heap.size w w2) := HW1.out.trans (hb.mono HW1.out.size)
  replace HA := Lib.hid (HA.out.below hb)
  have HP := Lib.hid hp
  clear hp
  clear hb
  go_wp2_with fail
  refine (GC.out _ HA.out).mono ?_
  rintro e w3 ⟨rfl, hb⟩
  have HW3 : Hid (Below w.heap.size w w3) := HW2.out.trans (hb.mono HW2.out.size)
  replace HA := Lib.hid (HA.out.below hb)
  clear hb
  go_wp2_with fail
  refine (GB.out _ HA.out).mono ?_
  rintro e w4 ⟨rfl, hb⟩
  have HW4 : Hid (Below w.heap.size w w4) := HW3.out.trans (hb.mono HW3.out.size)
  replace HA := Lib.hid (HA.out.below hb)
  clear hb
  go_wp2_with fail
  refine (GP.out _ _ HP.out _).mono ?_
  rintro e v ⟨rfl, rfl⟩
  go_wp2_with fail
  refine (GU.out _).mono ?_
  rintro e v ⟨⟨a2, b2, rfl, ht⟩, rfl⟩
  have HT2 := Lib.hid ht
  clear ht
  go_wp2_with fail
  refine (GT2.out _ _ HT2.out _ HA.out).mono ?_
  rintro e w5 ⟨⟨p2, q2, rfl, hp⟩, hb⟩
  have HW5 : Hid (Below w.heap.size w w5) := HW4.out.trans (hb.mono HW4.out.size)
  replace HA := Lib.hid (HA.out.below hb)
  have HP2 := Lib.hid hp
  clear hp
  clear hb
  go_wp2_with fail
  refine (GX.out _ HA.out).mono ?_
  rintro e w6 ⟨rfl, hb⟩
  have HW6 : Hid (Below w.heap.size w w6) := HW5.out.trans (hb.mono HW5.out.size)
  replace HA := Lib.hid (HA.out.below hb)
  clear hb
  go_wp2_with fail
  refine (GY.out _ HA.out).mono ?_
  rintro e w7 ⟨rfl, hb⟩
  have HW7 : Hid (Below w.heap.size w w7) := HW6.out.trans (hb.mono HW6.out.size)
  replace HA := Lib.hid (HA.out.below hb)
  clear hb
  go_wp2_with fail
  refine (GTD.out _ _ HP.out _).mono ?_
  rintro e v ⟨⟨a3, b3, rfl, ht⟩, rfl⟩
  have R1 := cne_fv HP2.out.re HP2.out.im ht.re ht.im (r := false) (by simp)
  clear ht
  by_cases z0 : y < x
  · by_cases z1 : x = 0
    · exfalso
      omega
    · by_cases z2 : x = n
      · clear HZ HM
        cases after
        · clear HE
          subst z2
          go_wp2_with fail
          refine (GO.out _ HA.out).mono ?_
          rintro e w8 ⟨rfl, hb⟩
          have HW8 : Hid (Below w.heap.size w w8) := HW7.out.trans (hb.mono HW7.out.size)
          replace HA := Lib.hid (HA.out.below hb)
          clear hb
          go_wp2_with fail
          refine (GA.out _).mono ?_
          rintro e w9 ⟨rfl, hb⟩
          have HW9 : Hid (Below w.heap.size w w9) := HW8.out.trans (hb.mono HW8.out.size)
          replace HA := Lib.hid (HA.out.below hb)
          clear hb
          go_wp2
          go_ret
          exact ⟨rfl, HW9.out⟩
        · have e1 : th = O := HE.out z2 rfl
          clear HE
          subst e1 z2
          go_wp2_with fail
          refine (GO.out _ HA.out).mono ?_
          rintro e w8 ⟨rfl, hb⟩
          have HW8 : Hid (Below w.heap.size w w8) := HW7.out.trans (hb.mono HW7.out.size)
          replace HA := Lib.hid (HA.out.below hb)
          clear hb
          go_wp2_with fail
          refine (GO.out _ HA.out).mono ?_
          rintro e w9 ⟨rfl, hb⟩
          have HW9 : Hid (Below w.heap.size w w9) := HW8.out.trans (hb.mono HW8.out.size)
          replace HA := Lib.hid (HA.out.below hb)
          clear hb
          go_wp2_with fail
          refine (GA.out _).mono ?_
          rintro e w10 ⟨rfl, hb⟩
          have HW10 : Hid (Below w.heap.size w w10) := HW9.out.trans (hb.mono HW9.out.size)
          replace HA := Lib.hid (HA.out.below hb)
          clear hb
          go_wp2
          go_ret
          exact ⟨rfl, HW10.out⟩
      · clear HZ HE HM
        cases after
        · go_wp2_with fail
          refine (GO.out _ HA.out).mono ?_
          rintro e w8 ⟨rfl, hb⟩
          have HW8 : Hid (Below w.heap.size w w8) := HW7.out.trans (hb.mono HW7.out.size)
          replace HA := Lib.hid (HA.out.below hb)
          clear hb
          go_wp2_with fail
          refine (GA.out _).mono ?_
          rintro e w9 ⟨rfl, hb⟩
          have HW9 : Hid (Below w.heap.size w w9) := HW8.out.trans (hb.mono HW8.out.size)
          replace HA := Lib.hid (HA.out.below hb)
          clear hb
          go_wp2
          go_ret
          exact ⟨rfl, HW9.out⟩
        · go_wp2_with fail
          refine (GO.out _ HA.out).mono ?_
          rintro e w8 ⟨rfl, hb⟩
          have HW8 : Hid (Below w.heap.size w w8) := HW7.out.trans (hb.mono HW7.out.size)
          replace HA := Lib.hid (HA.out.below hb)
          clear hb
          go_wp2_with fail
          refine (GA.out _).mono ?_
          rintro e w9 ⟨rfl, hb⟩
          have HW9 : Hid (Below w.heap.size w w9) := HW8.out.trans (hb.mono HW8.out.size)
          replace HA := Lib.hid (HA.out.below hb)
          clear hb
          go_wp2
          go_ret
          exact ⟨rfl, HW9.out⟩
  · have z3 : x ≤ y := by omega
    have z4 : th ≤ tk := HM.out z3
    by_cases z1 : x = 0
    · by_cases z2 : x = n
      · cases after
        · have e1 : th = 0 := HZ.out z1 rfl
          clear HZ HE HM
          subst e1 z1 z2
          go_wp2_with fail
          refine (GO.out _ HA.out).mono ?_
          rintro e w8 ⟨rfl, hb⟩
          have HW8 : Hid (Below w.heap.size w w8) := HW7.out.trans (hb.mono HW7.out.size)
          replace HA := Lib.hid (HA.out.below hb)
          clear hb
          go_wp2_with fail
          refine (GA.out _).mono ?_
          rintro e w9 ⟨rfl, hb⟩
          have HW9 : Hid (Below w.heap.size w w9) := HW8.out.trans (hb.mono HW8.out.size)
          replace HA := Lib.hid (HA.out.below hb)
          clear hb
          go_wp2
          go_ret
          exact ⟨rfl, HW9.out⟩
        · have e1 : th = O := HE.out z2 rfl
          clear HZ HE HM
          subst e1 z1 z2
          go_wp2_with fail
          refine (GO.out _ HA.out).mono ?_
          rintro e w8 ⟨rfl, hb⟩
          have HW8 : Hid (Below w.heap.size w w8) := HW7.out.trans (hb.mono HW7.out.size)
          replace HA := Lib.hid (HA.out.below hb)
          clear hb
          go_wp2_with fail
          refine (GO.out _ HA.out).mono ?_
          rintro e w9 ⟨rfl, hb⟩
          have HW9 : Hid (Below w.heap.size w w9) := HW8.out.trans (hb.mono HW8.out.size)
          replace HA := Lib.hid (HA.out.below hb)
          clear hb
          go_wp2_with fail
          refine (GA.out _).mono ?_
          rintro e w10 ⟨rfl, hb⟩
          have HW10 : Hid (Below w.heap.size w w10) := HW9.out.trans (hb.mono HW9.out.size)
          replace HA := Lib.hid (HA.out.below hb)
          clear hb
          go_wp2
          go_ret
          exact ⟨rfl, HW10.out⟩
      · clear HE HM
        cases after
        · have e1 : th = 0 := HZ.out z1 rfl
          clear HZ
          subst e1 z1
          go_wp2_with fail
          refine (GO.out _ HA.out).mono ?_
          rintro e w8 ⟨rfl, hb⟩
          have HW8 : Hid (Below w.heap.size w w8) := HW7.out.trans (hb.mono HW7.out.size)
          replace HA := Lib.hid (HA.out.below hb)
          clear hb
          go_wp2_with fail
          refine (GA.out _).mono ?_
          rintro e w9 ⟨rfl, hb⟩
          have HW9 : Hid (Below w.heap.size w w9) := HW8.out.trans (hb.mono HW8.out.size)
          replace HA := Lib.hid (HA.out.below hb)
          clear hb
          go_wp2
          go_ret
          exact ⟨rfl, HW9.out⟩
        · clear HZ
          subst z1
          go_wp2_with fail
          refine (GO.out _ HA.out).mono ?_
          rintro e w8 ⟨rfl, hb⟩
          have HW8 : Hid (Below w.heap.size w w8) := HW7.out.trans (hb.mono HW7.out.size)
          replace HA := Lib.hid (HA.out.below hb)
          clear hb
          go_wp2_with fail
          refine (GA.out _).mono ?_
          rintro e w9 ⟨rfl, hb⟩
          have HW9 : Hid (Below w.heap.size w w9) := HW8.out.trans (hb.mono HW8.out.size)
          replace HA := Lib.hid (HA.out.below hb)
          clear hb
          go_wp2
          go_ret
          exact ⟨rfl, HW9.out⟩
    · by_cases z2 : x = n
      · clear HZ HM
        cases after
        · clear HE
          subst z2
          go_wp2_with fail
          refine (GO.out _ HA.out).mono ?_
          rintro e w8 ⟨rfl, hb⟩
          have HW8 : Hid (Below w.heap.size w w8) := HW7.out.trans (hb.mono HW7.out.size)
          replace HA := Lib.hid (HA.out.below hb)
          clear hb
          go_wp2_with fail
          refine (GA.out _).mono ?_
          rintro e w9 ⟨rfl, hb⟩
          have HW9 : Hid (Below w.heap.size w w9) := HW8.out.trans (hb.mono HW8.out.size)
          replace HA := Lib.hid (HA.out.below hb)
          clear hb
          go_wp2
          go_ret
          exact ⟨rfl, HW9.out⟩
        · have e1 : th = O := HE.out z2 rfl
          clear HE
          subst e1 z2
          go_wp2_with fail
          refine (GO.out _ HA.out).mono ?_
          rintro e w8 ⟨rfl, hb⟩
          have HW8 : Hid (Below w.heap.size w w8) := HW7.out.trans (hb.mono HW7.out.size)
          replace HA := Lib.hid (HA.out.below hb)
          clear hb
          go_wp2_with fail
          refine (GO.out _ HA.out).mono ?_
          rintro e w9 ⟨rfl, hb⟩
          have HW9 : Hid (Below w.heap.size w w9) := HW8.out.trans (hb.mono HW8.out.size)
          replace HA := Lib.hid (HA.out.below hb)
          clear hb
          go_wp2_with fail
          refine (GA.out _).mono ?_
          rintro e w10 ⟨rfl, hb⟩
          have HW10 : Hid (Below w.heap.size w w10) := HW9.out.trans (hb.mono HW9.out.size)
          replace HA := Lib.hid (HA.out.below hb)
          clear hb
          go_wp2
          go_ret
          exact ⟨rfl, HW10.out⟩
      · clear HZ HE HM
        cases after
        · go_wp2_with fail
          refine (GO.out _ HA.out).mono ?_
          rintro e w8 ⟨rfl, hb⟩
          have HW8 : Hid (Below w.heap.size w w8) := HW7.out.trans (hb.mono HW7.out.size)
          replace HA := Lib.hid (HA.out.below hb)
          clear hb
          go_wp2_with fail
          refine (GA.out _).mono ?_
          rintro e w9 ⟨rfl, hb⟩
          have HW9 : Hid (Below w.heap.size w w9) := HW8.out.trans (hb.mono HW8.out.size)
          replace HA := Lib.hid (HA.out.below hb)
          clear hb
          go_wp2
          go_ret
          exact ⟨rfl, HW9.out⟩
        · go_wp2_with fail
          refine (GO.out _ HA.out).mono ?_
          rintro e w8 ⟨rfl, hb⟩
          have HW8 : Hid (Below w.heap.size w w8) := HW7.out.trans (hb.mono HW7.out.size)
          replace HA := Lib.hid (HA.out.below hb)
          clear hb
          go_wp2_with fail
          refine (GA.out _).mono ?_
          rintro e w9 ⟨rfl, hb⟩
          have HW9 : Hid (Below w.heap.size w w9) := HW8.out.trans (hb.mono HW8.out.size)
          replace HA := Lib.hid (HA.out.below hb)
          clear hb
          go_wp2
          go_ret
          exact ⟨rfl, HW9.out⟩
set_option maxHeartbeats 16000000 in
set_option maxRecDepth 100000 in
theorem cursorThrough_any (x y : Int) (A : Option Addr) (l : List CompV) (c : Nat) (after : Bool) (_hx : Fit64 x) (_hy : Fit64 y) (hl : l.length ≤ maxLen) (hg : ∀ y ∈ l, y.Good) (w : World) (hc : CompsC w A c l) :
    Calls Try.prog 5 #[.int .i64 x, .int .i64 y, .slice A l.length c, .bool after] w fun e w' => e = .returned (.bool true) ∧ Below w.heap.size w w' := by
  have GA := Lib.hid (fun w => curAwake_any w)
  have HW0 := Lib.hid (Below.refl w.heap.size w)
  have GW := Lib.hid (fun w h => alikeComps_c 2000 c hl hg w (A := A) h)
  have HA := Lib.hid hc
  clear hc
  obtain ⟨T, HT⟩ : ∃ x, Hid (compsWeight 2000 l = x) := ⟨_, rfl⟩
  rw [HT.out] at GW
  by_cases g1 : 2000 < T
  · clear hg
    go_enter Try.func5, Try.ntmps5
    go_wp2_with fail
    refine (GW.out _ HA.out).mono ?_
    rintro e w1 ⟨rfl, hb⟩
    have HW1 : Hid (Below w.heap.size w w1) := HW0.out.trans (hb.mono HW0.out.size)
    replace HA := Lib.hid (HA.out.below hb)
    clear hb
    go_wp2_with fail
    refine (GA.out _).mono ?_
    rintro e w2 ⟨rfl, hb⟩
    have HW2 : Hid (Below w.heap.size w w2) := HW1.out.trans (hb.mono HW1.out.size)
    replace HA := Lib.hid (HA.out.below hb)
    clear hb
    go_wp2
    go_ret
    exact ⟨rfl, HW2.out⟩
  have hT : (T : Int) ≤ 2000 := by omega
  have hh := held_of hg (weight_spec 2000 (by omega) l (by rw [HT.out]; omega)) (by omega)
  clear g1 hg hl _hx _hy
  by_cases g : x < 0
  · clear hh
    go_enter Try.func5, Try.ntmps5
    go_wp2_with fail
    refine (GW.out _ HA.out).mono ?_
    rintro e w1 ⟨rfl, hb⟩
    have HW1 : Hid (Below w.heap.size w w1) := HW0.out.trans (hb.mono HW0.out.size)
    replace HA := Lib.hid (HA.out.below hb)
    clear hb
    go_wp2_with fail
    refine (GA.out _).mono ?_
    rintro e w2 ⟨rfl, hb⟩
    have HW2 : Hid (Below w.heap.size w w2) := HW1.out.trans (hb.mono HW1.out.size)
    replace HA := Lib.hid (HA.out.below hb)
    clear hb
    go_wp2
    go_ret
    exact ⟨rfl, HW2.out⟩
  have hx0 : 0 ≤ x := by omega
  clear g
  by_cases g : 3000 < x
  · clear hh
    go_enter Try.func5, Try.ntmps5
    go_wp2_with fail
    refine (GW.out _ HA.out).mono ?_
    rintro e w1 ⟨rfl, hb⟩
    have HW1 : Hid (Below w.heap.size w w1) := HW0.out.trans (hb.mono HW0.out.size)
    replace HA := Lib.hid (HA.out.below hb)
    clear hb
    go_wp2_with fail
    refine (GA.out _).mono ?_
    rintro e w2 ⟨rfl, hb⟩
    have HW2 : Hid (Below w.heap.size w w2) := HW1.out.trans (hb.mono HW1.out.size)
    replace HA := Lib.hid (HA.out.below hb)
    clear hb
    go_wp2
    go_ret
    exact ⟨rfl, HW2.out⟩
  have hx1 : x ≤ 3000 := by omega
  clear g
  by_cases g : y < 0
  · clear hh
    go_enter Try.func5, Try.ntmps5
    go_wp2_with fail
    refine (GW.out _ HA.out).mono ?_
    rintro e w1 ⟨rfl, hb⟩
    have HW1 : Hid (Below w.heap.size w w1) := HW0.out.trans (hb.mono HW0.out.size)
    replace HA := Lib.hid (HA.out.below hb)
    clear hb
    go_wp2_with fail
    refine (GA.out _).mono ?_
    rintro e w2 ⟨rfl, hb⟩
    have HW2 : Hid (Below w.heap.size w w2) := HW1.out.trans (hb.mono HW1.out.size)
    replace HA := Lib.hid (HA.out.below hb)
    clear hb
    go_wp2
    go_ret
    exact ⟨rfl, HW2.out⟩
  have hy0 : 0 ≤ y := by omega
  clear g
  by_cases g : 3000 < y
  · clear hh
    go_enter Try.func5, Try.ntmps5
    go_wp2_with fail
    refine (GW.out _ HA.out).mono ?_
    rintro e w1 ⟨rfl, hb⟩
    have HW1 : Hid (Below w.heap.size w w1) := HW0.out.trans (hb.mono HW0.out.size)
    replace HA := Lib.hid (HA.out.below hb)
    clear hb
    go_wp2_with fail
    refine (GA.out _).mono ?_
    rintro e w2 ⟨rfl, hb⟩
    have HW2 : Hid (Below w.heap.size w w2) := HW1.out.trans (hb.mono HW1.out.size)
    replace HA := Lib.hid (HA.out.below hb)
    clear hb
    go_wp2
    go_ret
    exact ⟨rfl, HW2.out⟩
  have hy1 : y ≤ 3000 := by omega
  clear g
  by_cases hq : rCheck l = 0
  · by_cases hf : max x y ≤ rBase l
    · exact thr_in x y A l c after hx0 hx1 hy0 hy1 hq rfl hf hT GW hh w HA
    · exact thr_far x y A l c after hx0 hx1 hy0 hy1 hq rfl hf hT GW hh w HA
  · exact thr_bad x y A l c after hx0 hx1 hy0 hy1 rfl hq hT GW hh w HA
end Go.Proofs.Ytigmgnoiinljpaa

/- Through any edit each place goes where the document says; places keep their order; turned ahead, or behind, it is the same: it answers true and changes nothing. No condition. -/
namespace Go.Proofs.Ytigmgnoiinljpaa
open Go.ChangeShapes Go.WideShapes Go.ChangeAt Go.RowKit

set_option maxRecDepth 100000 in
theorem cursorThrough_lifted (os : Os) (started : os.Started) (H : Type) (enc : TypeId × Value → H) :
    ReturnsInHanded {} Try.checked os 5 .any (Rows.cursorThroughSpec.pre6 enc Try.prog Try.f5 Rows.cursorThroughRow.domain false) (Rows.cursorThroughSpec.post enc Try.prog Try.f5 false true false false) := by
  refine returnsInHanded_of_change (C := Try.checked) law_own started (by kernel_rfl) Try.func5
    (ChangeSpec.witness6 (enc := enc) (C := Try.checked) false ⟨#[], #[.int .i64 0, .int .i64 0, .slice none 0 0, .bool false], []⟩ 8 (by kernel_rfl) (by kernel_rfl) (by kernel_rfl) (by kernel_rfl)) ?_
  intro W base args ds gs before hval0 hW _ _
  have hval : ∀ (j : Nat) t v, Try.f5.params[j]? = some t → args[j]? = some v → Value.okWide Try.prog W .any base t v := hval0
  have hW' := hW
  obtain ⟨p, q, hA0, hV, rfl, _, _⟩ := hW
  have hlt : ∀ x ∈ p ++ q, x.block < W.heap.size := fun x hx => hW'.lt x hx
  have hA : DataW.TrodAll enc Try.prog W 0 (fun _ => true) true Try.f5.params.toList args.toList ds p := hA0
  rw [Try.params5] at hA hval
  obtain ⟨v0, v1, v2, v3, d0, d1, d2, d3, p0, p1, p2, p3, rfl, rfl, rfl, h0, h1, h2, h3⟩ := trodAll_four hA
  obtain ⟨rfl, rfl⟩ := trodVars_none hV
  obtain ⟨n0, rfl, rfl, rfl, hw0⟩ := open_int Try.underlying3 (hval 0 3 v0 rfl rfl) h0
  have hn0 : -9223372036854775808 ≤ n0 ∧ n0 ≤ 9223372036854775807 := by simpa [Lit.wf, IntKind.min, IntKind.max, IntKind.signed, IntKind.bits] using hw0
  obtain ⟨n1, rfl, rfl, rfl, hw1⟩ := open_int Try.underlying3 (hval 1 3 v1 rfl rfl) h1
  have hn1 : -9223372036854775808 ≤ n1 ∧ n1 ≤ 9223372036854775807 := by simpa [Lit.wf, IntKind.min, IntKind.max, IntKind.signed, IntKind.bits] using hw1
  obtain ⟨A2, l2, c2, rfl, hat2, hg2, hlc2, hc2⟩ := open_comps (hval 2 36 v2 rfl rfl) h2 (fun x hx => hlt x (by simp [hx]))
  have hl2 : l2.length ≤ maxLen := by omega
  obtain ⟨f3, rfl, rfl, rfl⟩ := open_bool Try.underlying4 (hval 3 4 v3 rfl rfl) h3
  clear hA0 hval0
  refine (cursorThrough_any n0 n1 A2 l2 c2 f3 hn0 hn1 hl2 hg2 W ⟨hat2, hlc2⟩).mono fun e W' ⟨he, hb⟩ => ?_
  exact ⟨_, he, law_post law_laid (by kernel_rfl) (by kernel_rfl) Try.underlying4 rfl hW' rfl hb⟩

theorem cursorThrough_holds : Rows.CursorThroughSaid :=
  OpenClaim.holds_of_wide 5 Try.f5 rfl rfl rfl rfl rfl rfl rfl ⟨rfl, rfl, rfl, rfl, rfl⟩ rfl rfl rfl rfl rfl (by kernel_rfl) Try.func5 (by kernel_rfl)
    (of_decide_eq_true (by kernel_rfl)) (by unfold Func.isWrapper; first | (rw [if_pos (by decide +kernel)]; kernel_rfl) | (rw [if_neg (by decide +kernel)]; exact ⟨rfl, rfl⟩))
    (fun os started H enc _ => cursorThrough_lifted os started H enc)
end Go.Proofs.Ytigmgnoiinljpaa
