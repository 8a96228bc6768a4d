/- XformNone: behind an edit that does nothing an edit is as it was; one that does nothing does nothing behind any; where both put in at one place, the first text stands first: it answers true and changes nothing. No condition. (Merged of 2 texts.) -/
import Derived.Test.YtakdcfjlhpponaaKXk
import Derived.Test.YtakdcfjlhpponaaKPl
import Derived.Test.YtakdcfjlhpponaaKNm
import Derived.Test.YtakdcfjlhpponaaKOf
import Derived.Test.YtakdcfjlhpponaaKOp
import Derived.Test.YtakdcfjlhpponaaKBase
import Derived.ChangeMaps5
/- XformNone, walked: behind an edit that does nothing an edit is as it was; one that does nothing does nothing behind any; where both put in at one place, the first one's text stands first. Condition: what memory may hold. -/
namespace Go.Proofs.Ytakdcfjlhpponaa
open Go.RowKit Go.Deep

theorem blks_text (n : Nat) : V (blks n 1) (blks n 1) := by
  have h : ∀ l : List Nat, (∀ x ∈ l, x < 128) → E l = l := by
    intro l
    induction l with
    | nil => intro _; exact E_nil
    | cons x l ih =>
      intro h
      have e : enc x = [x] := by unfold enc; rw [if_pos (h x (by simp))]
      rw [E_cons, e, ih (fun y hy => h y (by simp [hy]))]
      rfl
  have hm : ∀ v ∈ blks n 1, May v := fun v hv => by have := blks_lt n 1 v hv; unfold May; omega
  have hv := V.mk hm
  rwa [h _ (fun x hx => by have := blks_lt n 1 x hx; omega)] at hv
theorem E_ascii' {l : List Nat} (h : ∀ x ∈ l, x < 128) : E l = l := by
  induction l with
  | nil => exact E_nil
  | cons x l ih =>
    have e : enc x = [x] := by unfold enc; rw [if_pos (h x (by simp))]
    rw [E_cons, e, ih (fun y hy => h y (by simp [hy]))]
    rfl

set_option maxHeartbeats 8000000 in
set_option maxRecDepth 100000 in
theorem xformNone_any (n : Int) (A : Option Addr) (l : List CompV) (c : Nat) (f : Bool) (at_ : Int) (hn : -9223372036854775808 ≤ n ∧ n ≤ 9223372036854775807) (hll : l.length ≤ maxLen) (hgl : ∀ y ∈ l, y.Good) (_hat : -9223372036854775808 ≤ at_ ∧ at_ ≤ 9223372036854775807) (w : World) (hA : CompsC w A c l) :
    Calls Try.prog 6 #[.int .i64 n, .slice A l.length c, .bool f, .int .i64 at_] w fun e w' => e = .returned (.bool true) ∧ Below w.heap.size w w' := by
  have GA := Lib.hid (fun w => xfAwake_any w)
  have GW := Lib.hid (fun w h => alikeComps_c 1000 c hll hgl w (A := A) h)
  have HA := Lib.hid hA
  clear hA hll
  obtain ⟨T, HT⟩ : ∃ x, Hid (compsWeight 1000 l = x) := ⟨_, rfl⟩
  rw [HT.out] at GW
  have HW0 := Lib.hid (Below.refl w.heap.size w)
  by_cases g1 : n < 1
  · clear hgl
    go_enter Try.func6, Try.ntmps6
    go_wp2_with fail
    refine (GA.out _).mono ?_
    rintro e w1 ⟨rfl, hb⟩
    have HW1 : Hid (Below w.heap.size w w1) := HW0.out.trans (hb.mono HW0.out.size)
    replace HA := Lib.hid (HA.out.below hb)
    clear hb
    go_wp2
    go_ret
    exact ⟨rfl, HW1.out⟩
  by_cases g2 : 300 < n
  · clear hgl
    go_enter Try.func6, Try.ntmps6
    go_wp2_with fail
    refine (GA.out _).mono ?_
    rintro e w1 ⟨rfl, hb⟩
    have HW1 : Hid (Below w.heap.size w w1) := HW0.out.trans (hb.mono HW0.out.size)
    replace HA := Lib.hid (HA.out.below hb)
    clear hb
    go_wp2
    go_ret
    exact ⟨rfl, HW1.out⟩
  obtain ⟨N, rfl⟩ : ∃ N : Nat, n = (N : Int) := ⟨n.toNat, by omega⟩
  have hN : 1 ≤ N ∧ N ≤ 300 := by omega
  clear hn g1 g2
  by_cases g1 : 1000 < T
  · clear hgl
    go_enter Try.func6, Try.ntmps6
    go_wp2_with fail
    refine (GW.out _ HA.out).mono ?_
    rintro e w1 ⟨rfl, hb⟩
    have HW1 : Hid (Below w.heap.size w w1) := HW0.out.trans (hb.mono HW0.out.size)
    replace HA := Lib.hid (HA.out.below hb)
    clear hb
    go_wp2_with fail
    refine (GA.out _).mono ?_
    rintro e w2 ⟨rfl, hb⟩
    have HW2 : Hid (Below w.heap.size w w2) := HW1.out.trans (hb.mono HW1.out.size)
    replace HA := Lib.hid (HA.out.below hb)
    clear hb
    go_wp2
    go_ret
    exact ⟨rfl, HW2.out⟩
  have HEl := Lib.hid (held_of hgl (weight_spec 1000 (by omega) l (by rw [HT.out]; omega)) (by omega))
  clear hgl
  obtain ⟨ql, HQL⟩ : ∃ q, Hid (rCheck l = q) := ⟨_, Lib.hid rfl⟩
  obtain ⟨nl, HNL⟩ : ∃ q, Hid (rBase l = q) := ⟨_, Lib.hid rfl⟩
  by_cases z1 : ql = 0
  · by_cases z3 : nl = (N : Int)
    · subst z1 z3
      have okl := ok_of HQL.out
      have hl2 : inS l = N := by have := okl.base; have := HNL.out; omega
      have hx := over_keep f okl
      obtain ⟨Y, hY, hidle⟩ := keep_over f okl
      rw [hl2] at hx hY
      have HKH := Lib.hid (keep_held (n := (N : Int)) (by unfold Fit64; omega))
      have KX := Lib.hid (fun A ca B cb w h1 h2 => kOver hx HEl.out HKH.out A ca B cb w h1 h2)
      have KY := Lib.hid (fun A ca B cb w h1 h2 => kOver hY.over HKH.out HEl.out A ca B cb w h1 h2)
      have hby := wh_base hY.ch.wh (by rw [hY.ins]; have := okl.out1; omega)
      rw [hY.ins] at hby
      have hol := okl.out
      obtain ⟨O, HO⟩ : ∃ x, Hid ((outS l : Int) = x) := ⟨_, rfl⟩
      rw [HO.out] at hby hol
      have HBY := Lib.hid hby
      have HID := Lib.hid hidle
      have GO := Lib.hid (fun A c w (h : CompsC w A c l) => opOut_any A c l HEl.out.max HEl.out.fine w h.1)
      rw [hol] at GO
      have GI := Lib.hid (fun (hh : Held1 Y) A c w (h : CompsC w A c Y) => opIdle_any A c Y hh.max w h.1)
      rw [HID.out] at GI
      have GR := Lib.hid (fun w => alikeRound_any at_ (N + 1) (by omega) (by omega) w)
      have hk := rnd_lt at_ (n := N + 1) (by omega)
      obtain ⟨k, HK⟩ : ∃ k, Hid (rnd at_ (N + 1) = k) := ⟨_, Lib.hid rfl⟩
      rw [HK.out] at GR hk
      have hkn : k ≤ N := by omega
      clear hk hx hY hby hidle hol okl hl2
      have GOF : ∀ x : Nat, 0 < x ∧ x < 128 → ∀ w, Calls Try.prog 25 #[.int .i64 (N : Int), .int .i64 (k : Int), .int .i64 (k : Int), .string (bstr [x])] w fun e w' => (∃ A c, e = .returned (.tuple #[.slice A (putAt k (N - k) x).length c, .int .i64 0]) ∧ CompsC w' A c (putAt k (N - k) x)) ∧ Below w.heap.size w w' := fun x hx w => by
        refine (opOf_any (N : Int) (k : Int) (k : Int) [x] (by omega) (fun y hy => by rw [List.mem_singleton.1 hy]; omega) (by simp) w).mono ?_
        rintro e w' ⟨h1, hb⟩
        rcases h1 with ⟨h, _⟩ | ⟨_, A, c, he, ho⟩
        · exfalso
          rcases h with h | h | h | h
          · omega
          · omega
          · omega
          · exact h ⟨_, V_one x hx⟩
        · rw [putAt_of hkn (by omega)] at he ho
          exact ⟨⟨A, c, he, CompsC.of_own ho⟩, hb⟩
      have GOA : Hid (∀ w, Calls Try.prog 25 #[.int .i64 (N : Int), .int .i64 (k : Int), .int .i64 (k : Int), .string { data := #[65] }] w fun e w' => (∃ A c, e = .returned (.tuple #[.slice A (putAt k (N - k) 65).length c, .int .i64 0]) ∧ CompsC w' A c (putAt k (N - k) 65)) ∧ Below w.heap.size w w') := GOF 65 (by omega)
      have GOB : Hid (∀ w, Calls Try.prog 25 #[.int .i64 (N : Int), .int .i64 (k : Int), .int .i64 (k : Int), .string { data := #[66] }] w fun e w' => (∃ A c, e = .returned (.tuple #[.slice A (putAt k (N - k) 66).length c, .int .i64 0]) ∧ CompsC w' A c (putAt k (N - k) 66)) ∧ Below w.heap.size w w') := GOF 66 (by omega)
      obtain ⟨ok1, ok2, hi2, hd2, P, hP, okP, hdP⟩ := place_all f hkn hN.2 65 66 (by omega) (by omega)
      have HHa := Lib.hid (ok_held ok1)
      have HHb := Lib.hid (ok_held ok2)
      have KP := Lib.hid (fun A ca B cb w h1 h2 => kOver hP.over HHa.out HHb.out A ca B cb w h1 h2)
      have hvB := blks_text N
      have hlB := blks_length N 1
      have hB1 := blks_lt N 1
      have GB := Lib.hid (fun w => blocks_any N (by omega) 1 w)
      have h1 := does_ok ok2 hvB (by rw [hlB, hi2])
      rw [hd2 _ hlB] at h1
      have hm2 : ∀ v ∈ (blks N 1).take k ++ [66] ++ (blks N 1).drop k, v < 128 ∧ May v := by
        intro v hv
        have hb : v ∈ blks N 1 ∨ v = 66 := by
          rcases List.mem_append.1 hv with hv | hv
          · rcases List.mem_append.1 hv with hv | hv
            · exact .inl (List.mem_of_mem_take hv)
            · exact .inr (List.mem_singleton.1 hv)
          · exact .inl (List.mem_of_mem_drop hv)
        rcases hb with hb | rfl
        · have := hB1 v hb; unfold May; omega
        · unfold May; omega
      have hv2 : V (E ((blks N 1).take k ++ [66] ++ (blks N 1).drop k)) ((blks N 1).take k ++ [66] ++ (blks N 1).drop k) := V.mk fun v hv => (hm2 v hv).2
      have hlen2 : ((blks N 1).take k ++ [66] ++ (blks N 1).drop k).length = inS P := by
        rw [hP.ins]
        have := ed_length (putAt k (N - k) 66) (blks N 1) ok2.wh (by rw [hi2, hlB]; exact Nat.le_refl _)
        rw [hd2 _ hlB] at this
        exact this
      have h2 := does_ok okP hv2 hlen2
      rw [hdP _ hlB] at h2
      have hts := dTxt_small (blks N 1) (putAt k (N - k) 66)
      rw [h1.2] at hts
      have KD1 := Lib.hid (fun A c w h => kDo h1.2 h1.1 (fun x hx => by have := hB1 x hx; omega) (by omega) HHb.out A c w h)
      have KD2 := Lib.hid (fun A c w h => kDo h2.2 h2.1 hts.1 (by have := hts.2; omega) (ok_held okP) A c w h)
      have HLB := Lib.hid hlB
      have HB1 := Lib.hid hB1
      clear GOF ok1 ok2 hi2 hd2 hP okP hdP hvB hlB hB1 h1 hm2 hv2 hlen2 h2 hts
      obtain ⟨W2, HW2⟩ : ∃ x, Hid (bstr (E ((blks N 1).take k ++ [66] ++ (blks N 1).drop k)) = x) := ⟨_, Lib.hid rfl⟩
      rw [HW2.out] at KD1 KD2
      obtain ⟨pa, HPA⟩ : ∃ x, Hid (putAt k (N - k) 65 = x) := ⟨_, Lib.hid rfl⟩
      obtain ⟨pb, HPB⟩ : ∃ x, Hid (putAt k (N - k) 66 = x) := ⟨_, Lib.hid rfl⟩
      rw [HPA.out] at KP GOA
      rw [HPB.out] at KP KD1 GOB
      have HEA : Hid (∀ u v : Nat, u < 128 → v < 128 → E ((blks N 1).take k ++ [u, v] ++ (blks N 1).drop k) = (blks N 1).take k ++ [u, v] ++ (blks N 1).drop k) := fun u v hu hv => E_ascii' fun x hx => by
        rcases List.mem_append.1 hx with hx | hx
        · rcases List.mem_append.1 hx with hx | hx
          · have := HB1.out x (List.mem_of_mem_take hx); omega
          · rcases List.mem_cons.1 hx with rfl | hx
            · omega
            · rw [List.mem_singleton.1 hx]; omega
        · have := HB1.out x (List.mem_of_mem_drop hx); omega
      have SL1 := slice_bstr_to (blks N 1) k (by rw [HLB.out]; exact hkn)
      have SL2 := slice_bstr_from (blks N 1) k (by rw [HLB.out]; exact hkn)
      have AD1 := fun u v w => add_bstr ((blks N 1).take k) [u, v] (by rw [List.length_take]; omega) (by simp) w
      have AD2 := fun u v w => add_bstr ((blks N 1).take k ++ [u, v]) ((blks N 1).drop k) (by rw [List.length_append, List.length_take]; simp; omega) (by rw [List.length_drop, HLB.out]; omega) w
      obtain ⟨S1, HS1⟩ : ∃ x, Hid (bstr ((blks N 1).take k) = x) := ⟨_, Lib.hid rfl⟩
      obtain ⟨S2, HS2⟩ : ∃ x, Hid (bstr ((blks N 1).drop k) = x) := ⟨_, Lib.hid rfl⟩
      obtain ⟨S0, HS0⟩ : ∃ x, Hid (bstr (blks N 1) = x) := ⟨_, Lib.hid rfl⟩
      rw [HS1.out, HS0.out] at SL1
      rw [HS2.out, HS0.out] at SL2
      rw [HS0.out] at GB KD1
      cases f with
      | true =>
        rw [if_pos rfl, HEA.out 65 66 (by omega) (by omega)] at KD2
        have A1 : ∀ w, (Op.stringOp .add S1 { data := #[65, 66] }).run Try.prog w = .ok (.string (bstr ((blks N 1).take k ++ [65, 66]))) w := by rw [← HS1.out]; exact AD1 65 66
        have A2 := AD2 65 66
        rw [HS2.out] at A2
        clear AD1 AD2
        generalize bstr ((blks N 1).take k ++ [65, 66]) = S3 at A1 A2
        generalize bstr ((blks N 1).take k ++ [65, 66] ++ (blks N 1).drop k) = S4 at A2 KD2
        go_enter Try.func6, Try.ntmps6
        go_wp2_with fail
        refine (GW.out _ HA.out).mono ?_
        rintro e w1 ⟨rfl, hb⟩
        have HW1 : Hid (Below w.heap.size w w1) := HW0.out.trans (hb.mono HW0.out.size)
        replace HA := Lib.hid (HA.out.below hb)
        clear hb
        go_wp2_with fail
        refine (kCheck HQL.out HEl.out _ _ _ HA.out).mono ?_
        rintro e w2 ⟨rfl, hb⟩
        have HW2 : Hid (Below w.heap.size w w2) := HW1.out.trans (hb.mono HW1.out.size)
        replace HA := Lib.hid (HA.out.below hb)
        clear hb
        go_wp2_with fail
        refine (kBase HNL.out HEl.out _ _ _ HA.out).mono ?_
        rintro e w3 ⟨rfl, hb⟩
        have HW3 : Hid (Below w.heap.size w w3) := HW2.out.trans (hb.mono HW2.out.size)
        replace HA := Lib.hid (HA.out.below hb)
        clear hb
        go_wp2_with fail
        refine (kKeep (N : Int) _).mono ?_
        rintro e w4 ⟨⟨A1, c1, rfl, hk⟩, hb⟩
        have HW4 : Hid (Below w.heap.size w w4) := HW3.out.trans (hb.mono HW3.out.size)
        replace HA := Lib.hid (HA.out.below hb)
        have HK1 := Lib.hid hk
        clear hk
        clear hb
        go_wp2_with fail
        refine (KX.out _ _ _ _ _ HA.out HK1.out).mono ?_
        rintro e w5 ⟨⟨⟨A2, c2, rfl, hk⟩, _⟩, hb⟩
        have HW5 : Hid (Below w.heap.size w w5) := HW4.out.trans (hb.mono HW4.out.size)
        replace HA := Lib.hid (HA.out.below hb)
        replace HK1 := Lib.hid (HK1.out.below hb)
        have HXA := Lib.hid hk
        clear hk
        clear hb
        go_wp2_with fail
        refine (kKeep (N : Int) _).mono ?_
        rintro e w6 ⟨⟨A3, c3, rfl, hk⟩, hb⟩
        have HW6 : Hid (Below w.heap.size w w6) := HW5.out.trans (hb.mono HW5.out.size)
        replace HA := Lib.hid (HA.out.below hb)
        replace HK1 := Lib.hid (HK1.out.below hb)
        replace HXA := Lib.hid (HXA.out.below hb)
        have HK3 := Lib.hid hk
        clear hk
        clear hb
        go_wp2_with fail
        refine (KY.out _ _ _ _ _ HK3.out HA.out).mono ?_
        rintro e w7 ⟨⟨⟨A4, c4, rfl, hk⟩, hh⟩, hb⟩
        have HW7 : Hid (Below w.heap.size w w7) := HW6.out.trans (hb.mono HW6.out.size)
        replace HA := Lib.hid (HA.out.below hb)
        replace HK1 := Lib.hid (HK1.out.below hb)
        replace HXA := Lib.hid (HXA.out.below hb)
        replace HK3 := Lib.hid (HK3.out.below hb)
        have HYA := Lib.hid hk
        have HYH := Lib.hid hh
        clear hk hh
        clear hb
        go_wp2_with fail
        refine (GR.out _).mono ?_
        rintro e wr ⟨rfl, rfl⟩
        go_wp2_with fail
        refine (GOA.out _).mono ?_
        rintro e w8 ⟨⟨A5, c5, rfl, hk⟩, hb⟩
        have HW8 : Hid (Below w.heap.size w w8) := HW7.out.trans (hb.mono HW7.out.size)
        replace HA := Lib.hid (HA.out.below hb)
        replace HK1 := Lib.hid (HK1.out.below hb)
        replace HXA := Lib.hid (HXA.out.below hb)
        replace HK3 := Lib.hid (HK3.out.below hb)
        replace HYA := Lib.hid (HYA.out.below hb)
        have HAA := Lib.hid hk
        clear hk
        clear hb
        go_wp2_with fail
        refine (GOB.out _).mono ?_
        rintro e w9 ⟨⟨A6, c6, rfl, hk⟩, hb⟩
        have HW9 : Hid (Below w.heap.size w w9) := HW8.out.trans (hb.mono HW8.out.size)
        replace HA := Lib.hid (HA.out.below hb)
        replace HK1 := Lib.hid (HK1.out.below hb)
        replace HXA := Lib.hid (HXA.out.below hb)
        replace HK3 := Lib.hid (HK3.out.below hb)
        replace HYA := Lib.hid (HYA.out.below hb)
        replace HAA := Lib.hid (HAA.out.below hb)
        have HBA := Lib.hid hk
        clear hk
        clear hb
        go_wp2_with fail
        refine (KP.out _ _ _ _ _ HAA.out HBA.out).mono ?_
        rintro e w10 ⟨⟨⟨A7, c7, rfl, hk⟩, _⟩, hb⟩
        have HW10 : Hid (Below w.heap.size w w10) := HW9.out.trans (hb.mono HW9.out.size)
        replace HA := Lib.hid (HA.out.below hb)
        replace HK1 := Lib.hid (HK1.out.below hb)
        replace HXA := Lib.hid (HXA.out.below hb)
        replace HK3 := Lib.hid (HK3.out.below hb)
        replace HYA := Lib.hid (HYA.out.below hb)
        replace HAA := Lib.hid (HAA.out.below hb)
        replace HBA := Lib.hid (HBA.out.below hb)
        have HPA2 := Lib.hid hk
        clear hk
        clear hb
        go_wp2_with fail
        refine (GB.out _).mono ?_
        rintro e w11 ⟨rfl, hb⟩
        have HW11 : Hid (Below w.heap.size w w11) := HW10.out.trans (hb.mono HW10.out.size)
        replace HA := Lib.hid (HA.out.below hb)
        replace HK1 := Lib.hid (HK1.out.below hb)
        replace HXA := Lib.hid (HXA.out.below hb)
        replace HK3 := Lib.hid (HK3.out.below hb)
        replace HYA := Lib.hid (HYA.out.below hb)
        replace HAA := Lib.hid (HAA.out.below hb)
        replace HBA := Lib.hid (HBA.out.below hb)
        replace HPA2 := Lib.hid (HPA2.out.below hb)
        clear hb
        go_wp2_with fail
        refine (KD1.out _ _ _ HBA.out).mono ?_
        rintro e w12 ⟨rfl, hb⟩
        have HW12 : Hid (Below w.heap.size w w12) := HW11.out.trans (hb.mono HW11.out.size)
        replace HA := Lib.hid (HA.out.below hb)
        replace HK1 := Lib.hid (HK1.out.below hb)
        replace HXA := Lib.hid (HXA.out.below hb)
        replace HK3 := Lib.hid (HK3.out.below hb)
        replace HYA := Lib.hid (HYA.out.below hb)
        replace HAA := Lib.hid (HAA.out.below hb)
        replace HBA := Lib.hid (HBA.out.below hb)
        replace HPA2 := Lib.hid (HPA2.out.below hb)
        clear hb
        go_wp2_with fail
        refine (KD2.out _ _ _ HPA2.out).mono ?_
        rintro e w13 ⟨rfl, hb⟩
        have HW13 : Hid (Below w.heap.size w w13) := HW12.out.trans (hb.mono HW12.out.size)
        replace HA := Lib.hid (HA.out.below hb)
        replace HK1 := Lib.hid (HK1.out.below hb)
        replace HXA := Lib.hid (HXA.out.below hb)
        replace HK3 := Lib.hid (HK3.out.below hb)
        replace HYA := Lib.hid (HYA.out.below hb)
        replace HAA := Lib.hid (HAA.out.below hb)
        replace HBA := Lib.hid (HBA.out.below hb)
        replace HPA2 := Lib.hid (HPA2.out.below hb)
        clear hb
        go_wp2_with fail
        refine (GB.out _).mono ?_
        rintro e w14 ⟨rfl, hb⟩
        have HW14 : Hid (Below w.heap.size w w14) := HW13.out.trans (hb.mono HW13.out.size)
        replace HA := Lib.hid (HA.out.below hb)
        replace HK1 := Lib.hid (HK1.out.below hb)
        replace HXA := Lib.hid (HXA.out.below hb)
        replace HK3 := Lib.hid (HK3.out.below hb)
        replace HYA := Lib.hid (HYA.out.below hb)
        replace HAA := Lib.hid (HAA.out.below hb)
        replace HBA := Lib.hid (HBA.out.below hb)
        replace HPA2 := Lib.hid (HPA2.out.below hb)
        clear hb
        go_wp2
        refine wp_region_lit [(0, true), (1, true), (2, true), (3, true), (4, true), (5, true), (6, true), (7, true), (8, true), (9, false), (10, true), (11, true), (12, true), (13, false), (14, true), (15, true), (16, true), (18, true), (17, false), (19, false), (20, true), (21, true), (22, true), (23, true), (24, true), (25, true), (26, true), (27, true), (28, true), (29, true), (30, true), (31, true), (32, true), (33, true), (34, true), (35, true), (36, true), (37, true), (38, true), (39, true), (40, true), (41, true), (42, true), (43, true), (44, false), (45, true), (46, true)] (by kernel_rfl) (by kernel_rfl) (fun _ _ d _ _ h => by cases d <;> exact h) ?_
        simp only [picked, List.map_cons, List.map_nil, List.getElem?_cons_succ, List.getElem?_cons_zero, Option.getD_some]
        repeat (refine wpL_quiet (by rfl) (fun K hK => ?_); go_big_quiet_op; refine hK _ ?_; clear hK K)
        refine wpL_call (by rfl) (fun K hK => ?_)
        go_simp
        refine (kSame HEl.out _ _ _ _ _ HXA.out.drew HA.out.drew).mono ?_
        rintro e va ⟨rfl, hb⟩
        have HWva : Hid (Below w.heap.size w va) := (Below.drew HW14.out).trans (hb.mono (by have := HW14.out.size; simpa using this))
        have hbx : Below w14.heap.size w14 va := (Below.drew (Below.refl _ w14)).trans (hb.mono (by simp))
        replace HA := Lib.hid (HA.out.below hbx)
        replace HYA := Lib.hid (HYA.out.below hbx)
        refine hK _ _ hb ?_
        clear hK K hb hbx
        repeat (refine wpL_quiet (by rfl) (fun K hK => ?_); go_big_quiet_op; refine hK _ ?_; clear hK K)
        refine wpL_call (by rfl) (fun K hK => ?_)
        go_simp
        refine (GI.out HYH.out _ _ _ HYA.out).mono ?_
        rintro e vb ⟨rfl, hb⟩
        have HWvb : Hid (Below w.heap.size w vb) := HWva.out.trans (hb.mono HWva.out.size)
        replace HA := Lib.hid (HA.out.below hb)
        replace HYA := Lib.hid (HYA.out.below hb)
        refine hK _ _ hb ?_
        clear hK K hb
        repeat (refine wpL_quiet (by rfl) (fun K hK => ?_); go_big_quiet_op; refine hK _ ?_; clear hK K)
        refine wpL_call (by rfl) (fun K hK => ?_)
        go_simp
        refine (kBase HBY.out HYH.out _ _ _ HYA.out).mono ?_
        rintro e vc ⟨rfl, hb⟩
        have HWvc : Hid (Below w.heap.size w vc) := HWvb.out.trans (hb.mono HWvb.out.size)
        replace HA := Lib.hid (HA.out.below hb)
        replace HYA := Lib.hid (HYA.out.below hb)
        refine hK _ _ hb ?_
        clear hK K hb
        repeat (refine wpL_quiet (by rfl) (fun K hK => ?_); go_big_quiet_op; refine hK _ ?_; clear hK K)
        refine wpL_call (by rfl) (fun K hK => ?_)
        go_simp
        refine (GO.out _ _ _ HA.out).mono ?_
        rintro e vd ⟨rfl, hb⟩
        have HWvd : Hid (Below w.heap.size w vd) := HWvc.out.trans (hb.mono HWvc.out.size)
        replace HA := Lib.hid (HA.out.below hb)
        replace HYA := Lib.hid (HYA.out.below hb)
        refine hK _ _ hb ?_
        clear hK K hb
        repeat (refine wpL_quiet (by rfl) (fun K hK => ?_); go_big_quiet_op; refine hK _ ?_; clear hK K)
        refine wpL_call (by rfl) (fun K hK => ?_)
        go_simp
        refine (GA.out _).mono ?_
        rintro e ve ⟨rfl, hb⟩
        have HWve : Hid (Below w.heap.size w ve) := HWvd.out.trans (hb.mono HWvd.out.size)
        replace HA := Lib.hid (HA.out.below hb)
        replace HYA := Lib.hid (HYA.out.below hb)
        refine hK _ _ hb ?_
        clear hK K hb
        repeat (refine wpL_quiet (by rfl) (fun K hK => ?_); go_big_quiet_op; refine hK _ ?_; clear hK K)
        refine wpL_nil ?_
        go_wp2
        go_ret
        exact ⟨rfl, HWve.out⟩
      | false =>
        rw [if_neg (by simp), HEA.out 66 65 (by omega) (by omega)] at KD2
        have A1 : ∀ w, (Op.stringOp .add S1 { data := #[66, 65] }).run Try.prog w = .ok (.string (bstr ((blks N 1).take k ++ [66, 65]))) w := by rw [← HS1.out]; exact AD1 66 65
        have A2 := AD2 66 65
        rw [HS2.out] at A2
        clear AD1 AD2
        generalize bstr ((blks N 1).take k ++ [66, 65]) = S3 at A1 A2
        generalize bstr ((blks N 1).take k ++ [66, 65] ++ (blks N 1).drop k) = S4 at A2 KD2
        go_enter Try.func6, Try.ntmps6
        go_wp2_with fail
        refine (GW.out _ HA.out).mono ?_
        rintro e w1 ⟨rfl, hb⟩
        have HW1 : Hid (Below w.heap.size w w1) := HW0.out.trans (hb.mono HW0.out.size)
        replace HA := Lib.hid (HA.out.below hb)
        clear hb
        go_wp2_with fail
        refine (kCheck HQL.out HEl.out _ _ _ HA.out).mono ?_
        rintro e w2 ⟨rfl, hb⟩
        have HW2 : Hid (Below w.heap.size w w2) := HW1.out.trans (hb.mono HW1.out.size)
        replace HA := Lib.hid (HA.out.below hb)
        clear hb
        go_wp2_with fail
        refine (kBase HNL.out HEl.out _ _ _ HA.out).mono ?_
        rintro e w3 ⟨rfl, hb⟩
        have HW3 : Hid (Below w.heap.size w w3) := HW2.out.trans (hb.mono HW2.out.size)
        replace HA := Lib.hid (HA.out.below hb)
        clear hb
        go_wp2_with fail
        refine (kKeep (N : Int) _).mono ?_
        rintro e w4 ⟨⟨A1, c1, rfl, hk⟩, hb⟩
        have HW4 : Hid (Below w.heap.size w w4) := HW3.out.trans (hb.mono HW3.out.size)
        replace HA := Lib.hid (HA.out.below hb)
        have HK1 := Lib.hid hk
        clear hk
        clear hb
        go_wp2_with fail
        refine (KX.out _ _ _ _ _ HA.out HK1.out).mono ?_
        rintro e w5 ⟨⟨⟨A2, c2, rfl, hk⟩, _⟩, hb⟩
        have HW5 : Hid (Below w.heap.size w w5) := HW4.out.trans (hb.mono HW4.out.size)
        replace HA := Lib.hid (HA.out.below hb)
        replace HK1 := Lib.hid (HK1.out.below hb)
        have HXA := Lib.hid hk
        clear hk
        clear hb
        go_wp2_with fail
        refine (kKeep (N : Int) _).mono ?_
        rintro e w6 ⟨⟨A3, c3, rfl, hk⟩, hb⟩
        have HW6 : Hid (Below w.heap.size w w6) := HW5.out.trans (hb.mono HW5.out.size)
        replace HA := Lib.hid (HA.out.below hb)
        replace HK1 := Lib.hid (HK1.out.below hb)
        replace HXA := Lib.hid (HXA.out.below hb)
        have HK3 := Lib.hid hk
        clear hk
        clear hb
        go_wp2_with fail
        refine (KY.out _ _ _ _ _ HK3.out HA.out).mono ?_
        rintro e w7 ⟨⟨⟨A4, c4, rfl, hk⟩, hh⟩, hb⟩
        have HW7 : Hid (Below w.heap.size w w7) := HW6.out.trans (hb.mono HW6.out.size)
        replace HA := Lib.hid (HA.out.below hb)
        replace HK1 := Lib.hid (HK1.out.below hb)
        replace HXA := Lib.hid (HXA.out.below hb)
        replace HK3 := Lib.hid (HK3.out.below hb)
        have HYA := Lib.hid hk
        have HYH := Lib.hid hh
        clear hk hh
        clear hb
        go_wp2_with fail
        refine (GR.out _).mono ?_
        rintro e wr ⟨rfl, rfl⟩
        go_wp2_with fail
        refine (GOA.out _).mono ?_
        rintro e w8 ⟨⟨A5, c5, rfl, hk⟩, hb⟩
        have HW8 : Hid (Below w.heap.size w w8) := HW7.out.trans (hb.mono HW7.out.size)
        replace HA := Lib.hid (HA.out.below hb)
        replace HK1 := Lib.hid (HK1.out.below hb)
        replace HXA := Lib.hid (HXA.out.below hb)
        replace HK3 := Lib.hid (HK3.out.below hb)
        replace HYA := Lib.hid (HYA.out.below hb)
        have HAA := Lib.hid hk
        clear hk
        clear hb
        go_wp2_with fail
        refine (GOB.out _).mono ?_
        rintro e w9 ⟨⟨A6, c6, rfl, hk⟩, hb⟩
        have HW9 : Hid (Below w.heap.size w w9) := HW8.out.trans (hb.mono HW8.out.size)
        replace HA := Lib.hid (HA.out.below hb)
        replace HK1 := Lib.hid (HK1.out.below hb)
        replace HXA := Lib.hid (HXA.out.below hb)
        replace HK3 := Lib.hid (HK3.out.below hb)
        replace HYA := Lib.hid (HYA.out.below hb)
        replace HAA := Lib.hid (HAA.out.below hb)
        have HBA := Lib.hid hk
        clear hk
        clear hb
        go_wp2_with fail
        refine (KP.out _ _ _ _ _ HAA.out HBA.out).mono ?_
        rintro e w10 ⟨⟨⟨A7, c7, rfl, hk⟩, _⟩, hb⟩
        have HW10 : Hid (Below w.heap.size w w10) := HW9.out.trans (hb.mono HW9.out.size)
        replace HA := Lib.hid (HA.out.below hb)
        replace HK1 := Lib.hid (HK1.out.below hb)
        replace HXA := Lib.hid (HXA.out.below hb)
        replace HK3 := Lib.hid (HK3.out.below hb)
        replace HYA := Lib.hid (HYA.out.below hb)
        replace HAA := Lib.hid (HAA.out.below hb)
        replace HBA := Lib.hid (HBA.out.below hb)
        have HPA2 := Lib.hid hk
        clear hk
        clear hb
        go_wp2_with fail
        refine (GB.out _).mono ?_
        rintro e w11 ⟨rfl, hb⟩
        have HW11 : Hid (Below w.heap.size w w11) := HW10.out.trans (hb.mono HW10.out.size)
        replace HA := Lib.hid (HA.out.below hb)
        replace HK1 := Lib.hid (HK1.out.below hb)
        replace HXA := Lib.hid (HXA.out.below hb)
        replace HK3 := Lib.hid (HK3.out.below hb)
        replace HYA := Lib.hid (HYA.out.below hb)
        replace HAA := Lib.hid (HAA.out.below hb)
        replace HBA := Lib.hid (HBA.out.below hb)
        replace HPA2 := Lib.hid (HPA2.out.below hb)
        clear hb
        go_wp2_with fail
        refine (KD1.out _ _ _ HBA.out).mono ?_
        rintro e w12 ⟨rfl, hb⟩
        have HW12 : Hid (Below w.heap.size w w12) := HW11.out.trans (hb.mono HW11.out.size)
        replace HA := Lib.hid (HA.out.below hb)
        replace HK1 := Lib.hid (HK1.out.below hb)
        replace HXA := Lib.hid (HXA.out.below hb)
        replace HK3 := Lib.hid (HK3.out.below hb)
        replace HYA := Lib.hid (HYA.out.below hb)
        replace HAA := Lib.hid (HAA.out.below hb)
        replace HBA := Lib.hid (HBA.out.below hb)
        replace HPA2 := Lib.hid (HPA2.out.below hb)
        clear hb
        go_wp2_with fail
        refine (KD2.out _ _ _ HPA2.out).mono ?_
        rintro e w13 ⟨rfl, hb⟩
        have HW13 : Hid (Below w.heap.size w w13) := HW12.out.trans (hb.mono HW12.out.size)
        replace HA := Lib.hid (HA.out.below hb)
        replace HK1 := Lib.hid (HK1.out.below hb)
        replace HXA := Lib.hid (HXA.out.below hb)
        replace HK3 := Lib.hid (HK3.out.below hb)
        replace HYA := Lib.hid (HYA.out.below hb)
        replace HAA := Lib.hid (HAA.out.below hb)
        replace HBA := Lib.hid (HBA.out.below hb)
        replace HPA2 := Lib.hid (HPA2.out.below hb)
        clear hb
        go_wp2_with fail
        refine (GB.out _).mono ?_
        rintro e w14 ⟨rfl, hb⟩
        have HW14 : Hid (Below w.heap.size w w14) := HW13.out.trans (hb.mono HW13.out.size)
        replace HA := Lib.hid (HA.out.below hb)
        replace HK1 := Lib.hid (HK1.out.below hb)
        replace HXA := Lib.hid (HXA.out.below hb)
        replace HK3 := Lib.hid (HK3.out.below hb)
        replace HYA := Lib.hid (HYA.out.below hb)
        replace HAA := Lib.hid (HAA.out.below hb)
        replace HBA := Lib.hid (HBA.out.below hb)
        replace HPA2 := Lib.hid (HPA2.out.below hb)
        clear hb
        go_wp2
        refine wp_region_lit [(0, true), (1, true), (2, true), (3, true), (4, true), (5, true), (6, true), (7, true), (8, true), (9, false), (10, true), (11, true), (12, true), (13, false), (14, true), (15, true), (16, true), (18, true), (17, false), (19, false), (20, true), (21, true), (22, true), (23, true), (24, true), (25, true), (26, true), (27, true), (28, true), (29, true), (30, true), (31, true), (32, true), (33, true), (34, true), (35, true), (36, true), (37, true), (38, true), (39, true), (40, true), (41, true), (42, true), (43, true), (44, false), (45, true), (46, true)] (by kernel_rfl) (by kernel_rfl) (fun _ _ d _ _ h => by cases d <;> exact h) ?_
        simp only [picked, List.map_cons, List.map_nil, List.getElem?_cons_succ, List.getElem?_cons_zero, Option.getD_some]
        repeat (refine wpL_quiet (by rfl) (fun K hK => ?_); go_big_quiet_op; refine hK _ ?_; clear hK K)
        refine wpL_call (by rfl) (fun K hK => ?_)
        go_simp
        refine (kSame HEl.out _ _ _ _ _ HXA.out.drew HA.out.drew).mono ?_
        rintro e va ⟨rfl, hb⟩
        have HWva : Hid (Below w.heap.size w va) := (Below.drew HW14.out).trans (hb.mono (by have := HW14.out.size; simpa using this))
        have hbx : Below w14.heap.size w14 va := (Below.drew (Below.refl _ w14)).trans (hb.mono (by simp))
        replace HA := Lib.hid (HA.out.below hbx)
        replace HYA := Lib.hid (HYA.out.below hbx)
        refine hK _ _ hb ?_
        clear hK K hb hbx
        repeat (refine wpL_quiet (by rfl) (fun K hK => ?_); go_big_quiet_op; refine hK _ ?_; clear hK K)
        refine wpL_call (by rfl) (fun K hK => ?_)
        go_simp
        refine (GI.out HYH.out _ _ _ HYA.out).mono ?_
        rintro e vb ⟨rfl, hb⟩
        have HWvb : Hid (Below w.heap.size w vb) := HWva.out.trans (hb.mono HWva.out.size)
        replace HA := Lib.hid (HA.out.below hb)
        replace HYA := Lib.hid (HYA.out.below hb)
        refine hK _ _ hb ?_
        clear hK K hb
        repeat (refine wpL_quiet (by rfl) (fun K hK => ?_); go_big_quiet_op; refine hK _ ?_; clear hK K)
        refine wpL_call (by rfl) (fun K hK => ?_)
        go_simp
        refine (kBase HBY.out HYH.out _ _ _ HYA.out).mono ?_
        rintro e vc ⟨rfl, hb⟩
        have HWvc : Hid (Below w.heap.size w vc) := HWvb.out.trans (hb.mono HWvb.out.size)
        replace HA := Lib.hid (HA.out.below hb)
        replace HYA := Lib.hid (HYA.out.below hb)
        refine hK _ _ hb ?_
        clear hK K hb
        repeat (refine wpL_quiet (by rfl) (fun K hK => ?_); go_big_quiet_op; refine hK _ ?_; clear hK K)
        refine wpL_call (by rfl) (fun K hK => ?_)
        go_simp
        refine (GO.out _ _ _ HA.out).mono ?_
        rintro e vd ⟨rfl, hb⟩
        have HWvd : Hid (Below w.heap.size w vd) := HWvc.out.trans (hb.mono HWvc.out.size)
        replace HA := Lib.hid (HA.out.below hb)
        replace HYA := Lib.hid (HYA.out.below hb)
        refine hK _ _ hb ?_
        clear hK K hb
        repeat (refine wpL_quiet (by rfl) (fun K hK => ?_); go_big_quiet_op; refine hK _ ?_; clear hK K)
        refine wpL_call (by rfl) (fun K hK => ?_)
        go_simp
        refine (GA.out _).mono ?_
        rintro e ve ⟨rfl, hb⟩
        have HWve : Hid (Below w.heap.size w ve) := HWvd.out.trans (hb.mono HWvd.out.size)
        replace HA := Lib.hid (HA.out.below hb)
        replace HYA := Lib.hid (HYA.out.below hb)
        refine hK _ _ hb ?_
        clear hK K hb
        repeat (refine wpL_quiet (by rfl) (fun K hK => ?_); go_big_quiet_op; refine hK _ ?_; clear hK K)
        refine wpL_nil ?_
        go_wp2
        go_ret
        exact ⟨rfl, HWve.out⟩
    · have hq : (nl != (N : Int)) = true := bne_iff_ne.2 z3
      subst z1
      clear z3
      go_enter Try.func6, Try.ntmps6
      go_wp2_with fail
      refine (GW.out _ HA.out).mono ?_
      rintro e w1 ⟨rfl, hb⟩
      have HW1 : Hid (Below w.heap.size w w1) := HW0.out.trans (hb.mono HW0.out.size)
      replace HA := Lib.hid (HA.out.below hb)
      clear hb
      go_wp2_with fail
      refine (kCheck HQL.out HEl.out _ _ _ HA.out).mono ?_
      rintro e w2 ⟨rfl, hb⟩
      have HW2 : Hid (Below w.heap.size w w2) := HW1.out.trans (hb.mono HW1.out.size)
      replace HA := Lib.hid (HA.out.below hb)
      clear hb
      go_wp2_with fail
      refine (kBase HNL.out HEl.out _ _ _ HA.out).mono ?_
      rintro e w3 ⟨rfl, hb⟩
      have HW3 : Hid (Below w.heap.size w w3) := HW2.out.trans (hb.mono HW2.out.size)
      replace HA := Lib.hid (HA.out.below hb)
      clear hb
      go_wp2_with fail
      refine (GA.out _).mono ?_
      rintro e w4 ⟨rfl, hb⟩
      have HW4 : Hid (Below w.heap.size w w4) := HW3.out.trans (hb.mono HW3.out.size)
      replace HA := Lib.hid (HA.out.below hb)
      clear hb
      go_wp2
      go_ret
      exact ⟨rfl, HW4.out⟩
  · have hq : ((ql : Int) != 0) = true := bne_iff_ne.2 (by omega)
    clear z1
    go_enter Try.func6, Try.ntmps6
    go_wp2_with fail
    refine (GW.out _ HA.out).mono ?_
    rintro e w1 ⟨rfl, hb⟩
    have HW1 : Hid (Below w.heap.size w w1) := HW0.out.trans (hb.mono HW0.out.size)
    replace HA := Lib.hid (HA.out.below hb)
    clear hb
    go_wp2_with fail
    refine (kCheck HQL.out HEl.out _ _ _ HA.out).mono ?_
    rintro e w2 ⟨rfl, hb⟩
    have HW2 : Hid (Below w.heap.size w w2) := HW1.out.trans (hb.mono HW1.out.size)
    replace HA := Lib.hid (HA.out.below hb)
    clear hb
    go_wp2_with fail
    refine (GA.out _).mono ?_
    rintro e w3 ⟨rfl, hb⟩
    have HW3 : Hid (Below w.heap.size w w3) := HW2.out.trans (hb.mono HW2.out.size)
    replace HA := Lib.hid (HA.out.below hb)
    clear hb
    go_wp2
    go_ret
    exact ⟨rfl, HW3.out⟩
end Go.Proofs.Ytakdcfjlhpponaa

/- XformNone: behind an edit that does nothing an edit is as it was; one that does nothing does nothing behind any; where both put in at one place, the first text stands first: it answers true and changes nothing. No condition. -/
namespace Go.Proofs.Ytakdcfjlhpponaa
open Go.ChangeShapes Go.WideShapes Go.ChangeAt Go.RowKit

set_option maxRecDepth 100000 in
theorem xformNone_lifted (os : Os) (started : os.Started) (H : Type) (enc : TypeId × Value → H) :
    ReturnsInHanded {} Try.checked os 6 .any (Rows.xformNoneSpec.pre6 enc Try.prog Try.f6 Rows.xformNoneRow.domain false) (Rows.xformNoneSpec.post enc Try.prog Try.f6 false true false false) := by
  refine returnsInHanded_of_change (C := Try.checked) law_own started (by kernel_rfl) Try.func6
    (ChangeSpec.witness6 (enc := enc) (C := Try.checked) false ⟨#[], #[.int .i64 0, .slice none 0 0, .bool false, .int .i64 0], []⟩ 8 (by kernel_rfl) (by kernel_rfl) (by kernel_rfl) (by kernel_rfl)) ?_
  intro W base args ds gs before hval0 hW _ _
  have hval : ∀ (j : Nat) t v, Try.f6.params[j]? = some t → args[j]? = some v → Value.okWide Try.prog W .any base t v := hval0
  have hW' := hW
  obtain ⟨p, q, hA0, hV, rfl, _, _⟩ := hW
  have hlt : ∀ x ∈ p ++ q, x.block < W.heap.size := fun x hx => hW'.lt x hx
  have hA : DataW.TrodAll enc Try.prog W 0 (fun _ => true) true Try.f6.params.toList args.toList ds p := hA0
  rw [Try.params6] at hA hval
  obtain ⟨v0, v1, v2, v3, d0, d1, d2, d3, p0, p1, p2, p3, rfl, rfl, rfl, h0, h1, h2, h3⟩ := trodAll_four hA
  obtain ⟨rfl, rfl⟩ := trodVars_none hV
  obtain ⟨n0, rfl, rfl, rfl, hw0⟩ := open_int Try.underlying3 (hval 0 3 v0 rfl rfl) h0
  have hn0 : -9223372036854775808 ≤ n0 ∧ n0 ≤ 9223372036854775807 := by simpa [Lit.wf, IntKind.min, IntKind.max, IntKind.signed, IntKind.bits] using hw0
  obtain ⟨A1, l1, c1, rfl, hat1, hg1, hlc1, hc1⟩ := open_comps (hval 1 22 v1 rfl rfl) h1 (fun x hx => hlt x (by simp [hx]))
  have hl1 : l1.length ≤ maxLen := by omega
  obtain ⟨f2, rfl, rfl, rfl⟩ := open_bool Try.underlying4 (hval 2 4 v2 rfl rfl) h2
  obtain ⟨n3, rfl, rfl, rfl, hw3⟩ := open_int Try.underlying3 (hval 3 3 v3 rfl rfl) h3
  have hn3 : -9223372036854775808 ≤ n3 ∧ n3 ≤ 9223372036854775807 := by simpa [Lit.wf, IntKind.min, IntKind.max, IntKind.signed, IntKind.bits] using hw3
  clear hA0 hval0
  refine (xformNone_any n0 A1 l1 c1 f2 n3 hn0 hl1 hg1 hn3 W ⟨hat1, hlc1⟩).mono fun e W' ⟨he, hb⟩ => ?_
  exact ⟨_, he, law_post law_laid (by kernel_rfl) (by kernel_rfl) Try.underlying4 rfl hW' rfl hb⟩

theorem xformNone_holds : Rows.XformNoneSaid :=
  OpenClaim.holds_of_wide 6 Try.f6 rfl rfl rfl rfl rfl rfl rfl ⟨rfl, rfl, rfl, rfl, rfl⟩ rfl rfl rfl rfl rfl (by kernel_rfl) Try.func6 (by kernel_rfl)
    (of_decide_eq_true (by kernel_rfl)) (by unfold Func.isWrapper; first | (rw [if_pos (by decide +kernel)]; kernel_rfl) | (rw [if_neg (by decide +kernel)]; exact ⟨rfl, rfl⟩))
    (fun os started H enc _ => xformNone_lifted os started H enc)
end Go.Proofs.Ytakdcfjlhpponaa
