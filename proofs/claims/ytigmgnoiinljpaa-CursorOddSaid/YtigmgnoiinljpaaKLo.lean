/- CursorOdd, walked: what is no selection is none, whatever is asked of it. Condition: what memory may hold. -/
import Derived.Test.YtigmgnoiinljpaaKCa
import Derived.Test.YtigmgnoiinljpaaKRef
/- CursorOdd, walked: what is no selection is none, whatever is asked of it. Condition: what memory may hold. -/
namespace Go.Proofs.Ytigmgnoiinljpaa
open Go.RowKit Go.Deep Ieee
attribute [-go_sem] binOp_float_cmp_eql binOp_float_cmp_neq binOp_float_cmp_lss binOp_float_cmp_leq binOp_float_cmp_gtr binOp_float_cmp_geq run_eql_complex run_neq_complex
attribute [local irreducible] floatOfInt

theorem kRefCheck {l : List CompV} {q : Nat} (h : rCheck l = q) (hl : Held1 l) (A : Option Addr) (c : Nat) (w : World) (hA : CompsC w A c l) :
    Calls Try.prog 16 #[.slice A l.length c] w fun e w' => e = .returned (.int .i64 (q : Int)) ∧ Below w.heap.size w w' := by
  have := refCheck_any A c l hl.max hl.fine w hA.1
  rw [h] at this
  exact this
/-- Half of a small number, as the landed law makes it. -/
theorem half_fv {n : Int} (h : n.natAbs ≤ 1000) : ∃ r, (∀ t w, (binOp .quo t (.float .f64 (floatOfInt .f64 n)) (.float .f64 4611686018427387904)).run Try.prog w = .ok (.float .f64 r) w) ∧ FV r (8 * n) := by
  obtain ⟨r, e, f⟩ := (FV.ofInt (n := n) (by omega)).half (q := 8 * n) (by omega) (by omega)
  exact ⟨r, fun t w => run_float_arith w .quo t .f64 _ _ r e, f⟩
/-- Through of a selection, whatever comes of it. -/
theorem through_some {a b : Nat} {x y : Int} (hs : Sel a b x y) (after : Bool) (A : Option Addr) (c : Nat) (l : List CompV) (hh : Held1 l) (w : World) (hc : CompsC w A c l) :
    Calls Try.prog 15 #[.complex .f64 a b, .slice A l.length c, .bool after] w fun e w' => (∃ p q v, e = .returned (.tuple #[.complex .f64 p q, .int .i64 v])) ∧ Below w.heap.size w w' := by
  by_cases h : rCheck l = 0
  · by_cases g : max x y ≤ rBase l
    · refine (through_yes hs after A c l h rfl g hh w hc).mono ?_
      rintro e w' ⟨⟨p, q, rfl, _⟩, hb⟩
      exact ⟨⟨_, _, _, rfl⟩, hb⟩
    · refine (through_far hs after A c l h rfl g hh w hc).mono ?_
      rintro e w' ⟨rfl, hb⟩
      exact ⟨⟨_, _, _, rfl⟩, hb⟩
  · refine (through_bad after A c l rfl h hh w hc).mono ?_
    rintro e w' ⟨rfl, hb⟩
    exact ⟨⟨_, _, _, rfl⟩, hb⟩
/-- Through of what is no selection. -/
theorem through_none {a b : Nat} (hs : NoSel a b) (after : Bool) (A : Option Addr) (c : Nat) (l : List CompV) {q : Nat} (hq : rCheck l = q) (hh : Held1 l) (w : World) (hc : CompsC w A c l) :
    Calls Try.prog 15 #[.complex .f64 a b, .slice A l.length c, .bool after] w fun e w' => e = .returned (.tuple #[.complex .f64 0 0, .int .i64 (if (q : Int) = 0 then 1 else (q : Int))]) ∧ Below w.heap.size w w' := by
  by_cases h : q = 0
  · subst h
    exact through_nosel hs after A c l hq hh w hc
  · rw [if_neg (by omega)]
    exact through_bad after A c l hq h hh w hc

set_option maxHeartbeats 16000000 in
set_option maxRecDepth 100000 in
theorem odd_yes (a b : Int) (A : Option Addr) (l : List CompV) (c : Nat) (k j : Int) (ha0 : 0 ≤ a) (ha1 : a ≤ 1000) (hb0 : 0 ≤ b) (hb1 : b ≤ 1000) (hka : a = 2 * k) (hjb : b = 2 * j) {T : Nat} (hT : (T : Int) ≤ 1000) (GW : Hid (∀ w, CompsC w A c l → Calls Try.prog 14 #[.slice A l.length c, .int .i64 1000] w fun e w' => e = .returned (.int .i64 (T : Int)) ∧ Below w.heap.size w w')) (hh : Held1 l) (w : World) (HA : Hid (CompsC w A c l)) :
    Calls Try.prog 4 #[.int .i64 a, .int .i64 b, .slice A l.length c] w fun e w' => e = .returned (.bool true) ∧ Below w.heap.size w w' := by
  have GA := Lib.hid (fun w => curAwake_any w)
  have HW0 := Lib.hid (Below.refl w.heap.size w)
  obtain ⟨ra, R1, fa⟩ := half_fv (n := a) (by omega)
  obtain ⟨rb, R2, fb⟩ := half_fv (n := b) (by omega)
  have hs : Sel ra rb k j := ⟨by rw [show 16 * k = 8 * a by omega]; exact fa, by rw [show 16 * j = 8 * b by omega]; exact fb, by omega, by omega, by omega, by omega⟩
  have HS := Lib.hid hs
  have GP := Lib.hid (fun w => places_yes hs w)
  have GS := Lib.hid (fun w => span_yes hs w)
  have GY := Lib.hid (fun w => shift_yes (n := 0) hs (by omega) (by omega) w)
  rw [Int.add_zero, Int.add_zero] at GY
  have GT := Lib.hid (fun w h => through_some hs true A c l hh w h)
  have m1 : a.tmod 2 = 0 := by rw [Int.tmod_eq_emod_of_nonneg ha0]; omega
  have m2 : b.tmod 2 = 0 := by rw [Int.tmod_eq_emod_of_nonneg hb0]; omega
  have m3 : a.tdiv 2 = k := by rw [Int.tdiv_eq_ediv_of_nonneg ha0]; omega
  have m4 : b.tdiv 2 = j := by rw [Int.tdiv_eq_ediv_of_nonneg hb0]; omega
  have hk0 : 0 ≤ k := by omega
  have hk1 : k ≤ 500 := by omega
  have hj0 : 0 ≤ j := by omega
  have hj1 : j ≤ 500 := by omega
  generalize min k j = mi at GS
  generalize max k j = ma at GS
  clear hs fa fb hka hjb hh
  go_enter Try.func4, Try.ntmps4
  go_wp2_with fail
  refine (GW.out _ HA.out).mono ?_
  rintro e w1 ⟨rfl, hb⟩
  have HW1 : Hid (Below w.heap.size w w1) := HW0.out.trans (hb.mono HW0.out.size)
  replace HA := Lib.hid (HA.out.below hb)
  clear hb
  go_wp2_with fail
  refine (GP.out _).mono ?_
  rintro e v ⟨rfl, rfl⟩
  go_wp2_with fail
  refine (GS.out _).mono ?_
  rintro e v ⟨rfl, rfl⟩
  go_wp2_with fail
  refine (GY.out _).mono ?_
  rintro e v ⟨⟨i, j, rfl, hd⟩, rfl⟩
  have hd2 := ceq_fv hd.re hd.im HS.out.re HS.out.im (r := true) (by simp)
  clear hd
  go_wp2_with fail
  refine (GT.out _ HA.out).mono ?_
  rintro e w2 ⟨⟨p, q, u, rfl⟩, hb⟩
  have HW2 : Hid (Below w.heap.size w w2) := HW1.out.trans (hb.mono HW1.out.size)
  replace HA := Lib.hid (HA.out.below hb)
  clear hb
  go_wp2_with fail
  refine (GA.out _).mono ?_
  rintro e w3 ⟨rfl, hb⟩
  have HW3 : Hid (Below w.heap.size w w3) := HW2.out.trans (hb.mono HW2.out.size)
  replace HA := Lib.hid (HA.out.below hb)
  clear hb
  go_wp2
  go_ret
  exact ⟨rfl, HW3.out⟩
set_option maxHeartbeats 16000000 in
set_option maxRecDepth 100000 in
theorem odd_no (a b : Int) (A : Option Addr) (l : List CompV) (c : Nat) (ha0 : -1000 ≤ a) (ha1 : a ≤ 1000) (hb0 : -1000 ≤ b) (hb1 : b ≤ 1000) (hno : a < 0 ∨ (0 ≤ a ∧ a % 2 = 1) ∨ (0 ≤ a ∧ a % 2 = 0 ∧ b < 0) ∨ (0 ≤ a ∧ a % 2 = 0 ∧ 0 ≤ b ∧ b % 2 = 1)) {T : Nat} (hT : (T : Int) ≤ 1000) (GW : Hid (∀ w, CompsC w A c l → Calls Try.prog 14 #[.slice A l.length c, .int .i64 1000] w fun e w' => e = .returned (.int .i64 (T : Int)) ∧ Below w.heap.size w w')) (hh : Held1 l) (w : World) (HA : Hid (CompsC w A c l)) :
    Calls Try.prog 4 #[.int .i64 a, .int .i64 b, .slice A l.length c] w fun e w' => e = .returned (.bool true) ∧ Below w.heap.size w w' := by
  have GA := Lib.hid (fun w => curAwake_any w)
  have HW0 := Lib.hid (Below.refl w.heap.size w)
  obtain ⟨ra, R1, fa⟩ := half_fv (n := a) (by omega)
  obtain ⟨rb, R2, fb⟩ := half_fv (n := b) (by omega)
  have hs : NoSel ra rb := by
    refine ⟨_, _, .inl ⟨_, fa, by omega, rfl⟩, .inl ⟨_, fb, by omega, rfl⟩, ?_⟩
    unfold isPl
    rw [← Bool.decide_and]
    exact decide_eq_false (by omega)
  obtain ⟨q, hq⟩ : ∃ q, rCheck l = q := ⟨_, rfl⟩
  have GP := Lib.hid (fun w => places_no hs w)
  have GS := Lib.hid (fun w => span_no hs w)
  have GY := Lib.hid (fun w => shift_no hs fa fb (by omega) (by omega) w)
  have GT := Lib.hid (fun w h => through_none hs true A c l hq hh w h)
  have GC := Lib.hid (fun w h => kRefCheck hq hh A c w h)
  have GI := Lib.hid (fun w => within_no hs 5000 w)
  have GN := Lib.hid (fun w => turn_no hs w)
  have R3 := ceq_fv FV.c0 FV.c0 FV.c0 FV.c0 (r := true) (by simp)
  have R4 := ceq_fv fa fb fa fb (r := true) (by simp)
  clear hs fa fb hh hq
  rcases hno with h1 | ⟨h1, h2⟩ | ⟨h1, h2, h3⟩ | ⟨h1, h2, h3, h4⟩
  · by_cases z : (q : Int) = 0
    · rw [if_pos z] at GT
      rw [z] at GC
      clear z
      go_enter Try.func4, Try.ntmps4
      go_wp2_with fail
      refine (GW.out _ HA.out).mono ?_
      rintro e w1 ⟨rfl, hb⟩
      have HW1 : Hid (Below w.heap.size w w1) := HW0.out.trans (hb.mono HW0.out.size)
      replace HA := Lib.hid (HA.out.below hb)
      clear hb
      go_wp2_with fail
      refine (GP.out _).mono ?_
      rintro e v ⟨rfl, rfl⟩
      go_wp2_with fail
      refine (GS.out _).mono ?_
      rintro e v ⟨rfl, rfl⟩
      go_wp2_with fail
      refine (GY.out _).mono ?_
      rintro e v ⟨rfl, rfl⟩
      go_wp2_with fail
      refine (GT.out _ HA.out).mono ?_
      rintro e w2 ⟨rfl, hb⟩
      have HW2 : Hid (Below w.heap.size w w2) := HW1.out.trans (hb.mono HW1.out.size)
      replace HA := Lib.hid (HA.out.below hb)
      clear hb
      go_wp2_with fail
      refine (GC.out _ HA.out).mono ?_
      rintro e w3 ⟨rfl, hb⟩
      have HW3 : Hid (Below w.heap.size w w3) := HW2.out.trans (hb.mono HW2.out.size)
      replace HA := Lib.hid (HA.out.below hb)
      clear hb
      go_wp2_with fail
      refine (GI.out _).mono ?_
      rintro e v ⟨rfl, rfl⟩
      go_wp2_with fail
      refine (GN.out _).mono ?_
      rintro e v ⟨rfl, rfl⟩
      go_wp2_with fail
      refine (GA.out _).mono ?_
      rintro e w4 ⟨rfl, hb⟩
      have HW4 : Hid (Below w.heap.size w w4) := HW3.out.trans (hb.mono HW3.out.size)
      replace HA := Lib.hid (HA.out.below hb)
      clear hb
      go_wp2
      go_ret
      exact ⟨rfl, HW4.out⟩
    · rw [if_neg z] at GT
      have z2 : 0 < (q : Int) := by omega
      go_enter Try.func4, Try.ntmps4
      go_wp2_with fail
      refine (GW.out _ HA.out).mono ?_
      rintro e w1 ⟨rfl, hb⟩
      have HW1 : Hid (Below w.heap.size w w1) := HW0.out.trans (hb.mono HW0.out.size)
      replace HA := Lib.hid (HA.out.below hb)
      clear hb
      go_wp2_with fail
      refine (GP.out _).mono ?_
      rintro e v ⟨rfl, rfl⟩
      go_wp2_with fail
      refine (GS.out _).mono ?_
      rintro e v ⟨rfl, rfl⟩
      go_wp2_with fail
      refine (GY.out _).mono ?_
      rintro e v ⟨rfl, rfl⟩
      go_wp2_with fail
      refine (GT.out _ HA.out).mono ?_
      rintro e w2 ⟨rfl, hb⟩
      have HW2 : Hid (Below w.heap.size w w2) := HW1.out.trans (hb.mono HW1.out.size)
      replace HA := Lib.hid (HA.out.below hb)
      clear hb
      go_wp2_with fail
      refine (GC.out _ HA.out).mono ?_
      rintro e w3 ⟨rfl, hb⟩
      have HW3 : Hid (Below w.heap.size w w3) := HW2.out.trans (hb.mono HW2.out.size)
      replace HA := Lib.hid (HA.out.below hb)
      clear hb
      go_wp2_with fail
      refine (GC.out _ HA.out).mono ?_
      rintro e w4 ⟨rfl, hb⟩
      have HW4 : Hid (Below w.heap.size w w4) := HW3.out.trans (hb.mono HW3.out.size)
      replace HA := Lib.hid (HA.out.below hb)
      clear hb
      go_wp2_with fail
      refine (GI.out _).mono ?_
      rintro e v ⟨rfl, rfl⟩
      go_wp2_with fail
      refine (GN.out _).mono ?_
      rintro e v ⟨rfl, rfl⟩
      go_wp2_with fail
      refine (GA.out _).mono ?_
      rintro e w5 ⟨rfl, hb⟩
      have HW5 : Hid (Below w.heap.size w w5) := HW4.out.trans (hb.mono HW4.out.size)
      replace HA := Lib.hid (HA.out.below hb)
      clear hb
      go_wp2
      go_ret
      exact ⟨rfl, HW5.out⟩
  · have m1 : a.tmod 2 = 1 := by rw [Int.tmod_eq_emod_of_nonneg h1]; omega
    clear h2
    by_cases z : (q : Int) = 0
    · rw [if_pos z] at GT
      rw [z] at GC
      clear z
      go_enter Try.func4, Try.ntmps4
      go_wp2_with fail
      refine (GW.out _ HA.out).mono ?_
      rintro e w1 ⟨rfl, hb⟩
      have HW1 : Hid (Below w.heap.size w w1) := HW0.out.trans (hb.mono HW0.out.size)
      replace HA := Lib.hid (HA.out.below hb)
      clear hb
      go_wp2_with fail
      refine (GP.out _).mono ?_
      rintro e v ⟨rfl, rfl⟩
      go_wp2_with fail
      refine (GS.out _).mono ?_
      rintro e v ⟨rfl, rfl⟩
      go_wp2_with fail
      refine (GY.out _).mono ?_
      rintro e v ⟨rfl, rfl⟩
      go_wp2_with fail
      refine (GT.out _ HA.out).mono ?_
      rintro e w2 ⟨rfl, hb⟩
      have HW2 : Hid (Below w.heap.size w w2) := HW1.out.trans (hb.mono HW1.out.size)
      replace HA := Lib.hid (HA.out.below hb)
      clear hb
      go_wp2_with fail
      refine (GC.out _ HA.out).mono ?_
      rintro e w3 ⟨rfl, hb⟩
      have HW3 : Hid (Below w.heap.size w w3) := HW2.out.trans (hb.mono HW2.out.size)
      replace HA := Lib.hid (HA.out.below hb)
      clear hb
      go_wp2_with fail
      refine (GI.out _).mono ?_
      rintro e v ⟨rfl, rfl⟩
      go_wp2_with fail
      refine (GN.out _).mono ?_
      rintro e v ⟨rfl, rfl⟩
      go_wp2_with fail
      refine (GA.out _).mono ?_
      rintro e w4 ⟨rfl, hb⟩
      have HW4 : Hid (Below w.heap.size w w4) := HW3.out.trans (hb.mono HW3.out.size)
      replace HA := Lib.hid (HA.out.below hb)
      clear hb
      go_wp2
      go_ret
      exact ⟨rfl, HW4.out⟩
    · rw [if_neg z] at GT
      have z2 : 0 < (q : Int) := by omega
      go_enter Try.func4, Try.ntmps4
      go_wp2_with fail
      refine (GW.out _ HA.out).mono ?_
      rintro e w1 ⟨rfl, hb⟩
      have HW1 : Hid (Below w.heap.size w w1) := HW0.out.trans (hb.mono HW0.out.size)
      replace HA := Lib.hid (HA.out.below hb)
      clear hb
      go_wp2_with fail
      refine (GP.out _).mono ?_
      rintro e v ⟨rfl, rfl⟩
      go_wp2_with fail
      refine (GS.out _).mono ?_
      rintro e v ⟨rfl, rfl⟩
      go_wp2_with fail
      refine (GY.out _).mono ?_
      rintro e v ⟨rfl, rfl⟩
      go_wp2_with fail
      refine (GT.out _ HA.out).mono ?_
      rintro e w2 ⟨rfl, hb⟩
      have HW2 : Hid (Below w.heap.size w w2) := HW1.out.trans (hb.mono HW1.out.size)
      replace HA := Lib.hid (HA.out.below hb)
      clear hb
      go_wp2_with fail
      refine (GC.out _ HA.out).mono ?_
      rintro e w3 ⟨rfl, hb⟩
      have HW3 : Hid (Below w.heap.size w w3) := HW2.out.trans (hb.mono HW2.out.size)
      replace HA := Lib.hid (HA.out.below hb)
      clear hb
      go_wp2_with fail
      refine (GC.out _ HA.out).mono ?_
      rintro e w4 ⟨rfl, hb⟩
      have HW4 : Hid (Below w.heap.size w w4) := HW3.out.trans (hb.mono HW3.out.size)
      replace HA := Lib.hid (HA.out.below hb)
      clear hb
      go_wp2_with fail
      refine (GI.out _).mono ?_
      rintro e v ⟨rfl, rfl⟩
      go_wp2_with fail
      refine (GN.out _).mono ?_
      rintro e v ⟨rfl, rfl⟩
      go_wp2_with fail
      refine (GA.out _).mono ?_
      rintro e w5 ⟨rfl, hb⟩
      have HW5 : Hid (Below w.heap.size w w5) := HW4.out.trans (hb.mono HW4.out.size)
      replace HA := Lib.hid (HA.out.below hb)
      clear hb
      go_wp2
      go_ret
      exact ⟨rfl, HW5.out⟩
  · have m1 : a.tmod 2 = 0 := by rw [Int.tmod_eq_emod_of_nonneg h1]; omega
    clear h2
    by_cases z : (q : Int) = 0
    · rw [if_pos z] at GT
      rw [z] at GC
      clear z
      go_enter Try.func4, Try.ntmps4
      go_wp2_with fail
      refine (GW.out _ HA.out).mono ?_
      rintro e w1 ⟨rfl, hb⟩
      have HW1 : Hid (Below w.heap.size w w1) := HW0.out.trans (hb.mono HW0.out.size)
      replace HA := Lib.hid (HA.out.below hb)
      clear hb
      go_wp2_with fail
      refine (GP.out _).mono ?_
      rintro e v ⟨rfl, rfl⟩
      go_wp2_with fail
      refine (GS.out _).mono ?_
      rintro e v ⟨rfl, rfl⟩
      go_wp2_with fail
      refine (GY.out _).mono ?_
      rintro e v ⟨rfl, rfl⟩
      go_wp2_with fail
      refine (GT.out _ HA.out).mono ?_
      rintro e w2 ⟨rfl, hb⟩
      have HW2 : Hid (Below w.heap.size w w2) := HW1.out.trans (hb.mono HW1.out.size)
      replace HA := Lib.hid (HA.out.below hb)
      clear hb
      go_wp2_with fail
      refine (GC.out _ HA.out).mono ?_
      rintro e w3 ⟨rfl, hb⟩
      have HW3 : Hid (Below w.heap.size w w3) := HW2.out.trans (hb.mono HW2.out.size)
      replace HA := Lib.hid (HA.out.below hb)
      clear hb
      go_wp2_with fail
      refine (GI.out _).mono ?_
      rintro e v ⟨rfl, rfl⟩
      go_wp2_with fail
      refine (GN.out _).mono ?_
      rintro e v ⟨rfl, rfl⟩
      go_wp2_with fail
      refine (GA.out _).mono ?_
      rintro e w4 ⟨rfl, hb⟩
      have HW4 : Hid (Below w.heap.size w w4) := HW3.out.trans (hb.mono HW3.out.size)
      replace HA := Lib.hid (HA.out.below hb)
      clear hb
      go_wp2
      go_ret
      exact ⟨rfl, HW4.out⟩
    · rw [if_neg z] at GT
      have z2 : 0 < (q : Int) := by omega
      go_enter Try.func4, Try.ntmps4
      go_wp2_with fail
      refine (GW.out _ HA.out).mono ?_
      rintro e w1 ⟨rfl, hb⟩
      have HW1 : Hid (Below w.heap.size w w1) := HW0.out.trans (hb.mono HW0.out.size)
      replace HA := Lib.hid (HA.out.below hb)
      clear hb
      go_wp2_with fail
      refine (GP.out _).mono ?_
      rintro e v ⟨rfl, rfl⟩
      go_wp2_with fail
      refine (GS.out _).mono ?_
      rintro e v ⟨rfl, rfl⟩
      go_wp2_with fail
      refine (GY.out _).mono ?_
      rintro e v ⟨rfl, rfl⟩
      go_wp2_with fail
      refine (GT.out _ HA.out).mono ?_
      rintro e w2 ⟨rfl, hb⟩
      have HW2 : Hid (Below w.heap.size w w2) := HW1.out.trans (hb.mono HW1.out.size)
      replace HA := Lib.hid (HA.out.below hb)
      clear hb
      go_wp2_with fail
      refine (GC.out _ HA.out).mono ?_
      rintro e w3 ⟨rfl, hb⟩
      have HW3 : Hid (Below w.heap.size w w3) := HW2.out.trans (hb.mono HW2.out.size)
      replace HA := Lib.hid (HA.out.below hb)
      clear hb
      go_wp2_with fail
      refine (GC.out _ HA.out).mono ?_
      rintro e w4 ⟨rfl, hb⟩
      have HW4 : Hid (Below w.heap.size w w4) := HW3.out.trans (hb.mono HW3.out.size)
      replace HA := Lib.hid (HA.out.below hb)
      clear hb
      go_wp2_with fail
      refine (GI.out _).mono ?_
      rintro e v ⟨rfl, rfl⟩
      go_wp2_with fail
      refine (GN.out _).mono ?_
      rintro e v ⟨rfl, rfl⟩
      go_wp2_with fail
      refine (GA.out _).mono ?_
      rintro e w5 ⟨rfl, hb⟩
      have HW5 : Hid (Below w.heap.size w w5) := HW4.out.trans (hb.mono HW4.out.size)
      replace HA := Lib.hid (HA.out.below hb)
      clear hb
      go_wp2
      go_ret
      exact ⟨rfl, HW5.out⟩
  · have m1 : a.tmod 2 = 0 := by rw [Int.tmod_eq_emod_of_nonneg h1]; omega
    have m2 : b.tmod 2 = 1 := by rw [Int.tmod_eq_emod_of_nonneg h3]; omega
    clear h2 h4
    by_cases z : (q : Int) = 0
    · rw [if_pos z] at GT
      rw [z] at GC
      clear z
      go_enter Try.func4, Try.ntmps4
      go_wp2_with fail
      refine (GW.out _ HA.out).mono ?_
      rintro e w1 ⟨rfl, hb⟩
      have HW1 : Hid (Below w.heap.size w w1) := HW0.out.trans (hb.mono HW0.out.size)
      replace HA := Lib.hid (HA.out.below hb)
      clear hb
      go_wp2_with fail
      refine (GP.out _).mono ?_
      rintro e v ⟨rfl, rfl⟩
      go_wp2_with fail
      refine (GS.out _).mono ?_
      rintro e v ⟨rfl, rfl⟩
      go_wp2_with fail
      refine (GY.out _).mono ?_
      rintro e v ⟨rfl, rfl⟩
      go_wp2_with fail
      refine (GT.out _ HA.out).mono ?_
      rintro e w2 ⟨rfl, hb⟩
      have HW2 : Hid (Below w.heap.size w w2) := HW1.out.trans (hb.mono HW1.out.size)
      replace HA := Lib.hid (HA.out.below hb)
      clear hb
      go_wp2_with fail
      refine (GC.out _ HA.out).mono ?_
      rintro e w3 ⟨rfl, hb⟩
      have HW3 : Hid (Below w.heap.size w w3) := HW2.out.trans (hb.mono HW2.out.size)
      replace HA := Lib.hid (HA.out.below hb)
      clear hb
      go_wp2_with fail
      refine (GI.out _).mono ?_
      rintro e v ⟨rfl, rfl⟩
      go_wp2_with fail
      refine (GN.out _).mono ?_
      rintro e v ⟨rfl, rfl⟩
      go_wp2_with fail
      refine (GA.out _).mono ?_
      rintro e w4 ⟨rfl, hb⟩
      have HW4 : Hid (Below w.heap.size w w4) := HW3.out.trans (hb.mono HW3.out.size)
      replace HA := Lib.hid (HA.out.below hb)
      clear hb
      go_wp2
      go_ret
      exact ⟨rfl, HW4.out⟩
    · rw [if_neg z] at GT
      have z2 : 0 < (q : Int) := by omega
      go_enter Try.func4, Try.ntmps4
      go_wp2_with fail
      refine (GW.out _ HA.out).mono ?_
      rintro e w1 ⟨rfl, hb⟩
      have HW1 : Hid (Below w.heap.size w w1) := HW0.out.trans (hb.mono HW0.out.size)
      replace HA := Lib.hid (HA.out.below hb)
      clear hb
      go_wp2_with fail
      refine (GP.out _).mono ?_
      rintro e v ⟨rfl, rfl⟩
      go_wp2_with fail
      refine (GS.out _).mono ?_
      rintro e v ⟨rfl, rfl⟩
      go_wp2_with fail
      refine (GY.out _).mono ?_
      rintro e v ⟨rfl, rfl⟩
      go_wp2_with fail
      refine (GT.out _ HA.out).mono ?_
      rintro e w2 ⟨rfl, hb⟩
      have HW2 : Hid (Below w.heap.size w w2) := HW1.out.trans (hb.mono HW1.out.size)
      replace HA := Lib.hid (HA.out.below hb)
      clear hb
      go_wp2_with fail
      refine (GC.out _ HA.out).mono ?_
      rintro e w3 ⟨rfl, hb⟩
      have HW3 : Hid (Below w.heap.size w w3) := HW2.out.trans (hb.mono HW2.out.size)
      replace HA := Lib.hid (HA.out.below hb)
      clear hb
      go_wp2_with fail
      refine (GC.out _ HA.out).mono ?_
      rintro e w4 ⟨rfl, hb⟩
      have HW4 : Hid (Below w.heap.size w w4) := HW3.out.trans (hb.mono HW3.out.size)
      replace HA := Lib.hid (HA.out.below hb)
      clear hb
      go_wp2_with fail
      refine (GI.out _).mono ?_
      rintro e v ⟨rfl, rfl⟩
      go_wp2_with fail
      refine (GN.out _).mono ?_
      rintro e v ⟨rfl, rfl⟩
      go_wp2_with fail
      refine (GA.out _).mono ?_
      rintro e w5 ⟨rfl, hb⟩
      have HW5 : Hid (Below w.heap.size w w5) := HW4.out.trans (hb.mono HW4.out.size)
      replace HA := Lib.hid (HA.out.below hb)
      clear hb
      go_wp2
      go_ret
      exact ⟨rfl, HW5.out⟩
set_option maxHeartbeats 16000000 in
set_option maxRecDepth 100000 in
theorem cursorOdd_any (a b : Int) (A : Option Addr) (l : List CompV) (c : Nat) (_ha : Fit64 a) (_hb : Fit64 b) (hl : l.length ≤ maxLen) (hg : ∀ y ∈ l, y.Good) (w : World) (hc : CompsC w A c l) :
    Calls Try.prog 4 #[.int .i64 a, .int .i64 b, .slice A l.length c] w fun e w' => e = .returned (.bool true) ∧ Below w.heap.size w w' := by
  have GA := Lib.hid (fun w => curAwake_any w)
  have HW0 := Lib.hid (Below.refl w.heap.size w)
  have GW := Lib.hid (fun w h => alikeComps_c 1000 c hl hg w (A := A) h)
  have HA := Lib.hid hc
  clear hc
  obtain ⟨T, HT⟩ : ∃ x, Hid (compsWeight 1000 l = x) := ⟨_, rfl⟩
  rw [HT.out] at GW
  by_cases g1 : 1000 < T
  · clear hg
    go_enter Try.func4, Try.ntmps4
    go_wp2_with fail
    refine (GW.out _ HA.out).mono ?_
    rintro e w1 ⟨rfl, hb⟩
    have HW1 : Hid (Below w.heap.size w w1) := HW0.out.trans (hb.mono HW0.out.size)
    replace HA := Lib.hid (HA.out.below hb)
    clear hb
    go_wp2_with fail
    refine (GA.out _).mono ?_
    rintro e w2 ⟨rfl, hb⟩
    have HW2 : Hid (Below w.heap.size w w2) := HW1.out.trans (hb.mono HW1.out.size)
    replace HA := Lib.hid (HA.out.below hb)
    clear hb
    go_wp2
    go_ret
    exact ⟨rfl, HW2.out⟩
  have hT : (T : Int) ≤ 1000 := by omega
  have hh := held_of hg (weight_spec 1000 (by omega) l (by rw [HT.out]; omega)) (by omega)
  clear g1 hg hl _ha _hb
  by_cases g : a < -1000
  · clear hh
    go_enter Try.func4, Try.ntmps4
    go_wp2_with fail
    refine (GW.out _ HA.out).mono ?_
    rintro e w1 ⟨rfl, hb⟩
    have HW1 : Hid (Below w.heap.size w w1) := HW0.out.trans (hb.mono HW0.out.size)
    replace HA := Lib.hid (HA.out.below hb)
    clear hb
    go_wp2_with fail
    refine (GA.out _).mono ?_
    rintro e w2 ⟨rfl, hb⟩
    have HW2 : Hid (Below w.heap.size w w2) := HW1.out.trans (hb.mono HW1.out.size)
    replace HA := Lib.hid (HA.out.below hb)
    clear hb
    go_wp2
    go_ret
    exact ⟨rfl, HW2.out⟩
  replace g := Int.not_lt.1 g
  have ha0 := g
  clear g
  by_cases g : 1000 < a
  · clear hh
    go_enter Try.func4, Try.ntmps4
    go_wp2_with fail
    refine (GW.out _ HA.out).mono ?_
    rintro e w1 ⟨rfl, hb⟩
    have HW1 : Hid (Below w.heap.size w w1) := HW0.out.trans (hb.mono HW0.out.size)
    replace HA := Lib.hid (HA.out.below hb)
    clear hb
    go_wp2_with fail
    refine (GA.out _).mono ?_
    rintro e w2 ⟨rfl, hb⟩
    have HW2 : Hid (Below w.heap.size w w2) := HW1.out.trans (hb.mono HW1.out.size)
    replace HA := Lib.hid (HA.out.below hb)
    clear hb
    go_wp2
    go_ret
    exact ⟨rfl, HW2.out⟩
  replace g := Int.not_lt.1 g
  have ha1 := g
  clear g
  by_cases g : b < -1000
  · clear hh
    go_enter Try.func4, Try.ntmps4
    go_wp2_with fail
    refine (GW.out _ HA.out).mono ?_
    rintro e w1 ⟨rfl, hb⟩
    have HW1 : Hid (Below w.heap.size w w1) := HW0.out.trans (hb.mono HW0.out.size)
    replace HA := Lib.hid (HA.out.below hb)
    clear hb
    go_wp2_with fail
    refine (GA.out _).mono ?_
    rintro e w2 ⟨rfl, hb⟩
    have HW2 : Hid (Below w.heap.size w w2) := HW1.out.trans (hb.mono HW1.out.size)
    replace HA := Lib.hid (HA.out.below hb)
    clear hb
    go_wp2
    go_ret
    exact ⟨rfl, HW2.out⟩
  replace g := Int.not_lt.1 g
  have hb0 := g
  clear g
  by_cases g : 1000 < b
  · clear hh
    go_enter Try.func4, Try.ntmps4
    go_wp2_with fail
    refine (GW.out _ HA.out).mono ?_
    rintro e w1 ⟨rfl, hb⟩
    have HW1 : Hid (Below w.heap.size w w1) := HW0.out.trans (hb.mono HW0.out.size)
    replace HA := Lib.hid (HA.out.below hb)
    clear hb
    go_wp2_with fail
    refine (GA.out _).mono ?_
    rintro e w2 ⟨rfl, hb⟩
    have HW2 : Hid (Below w.heap.size w w2) := HW1.out.trans (hb.mono HW1.out.size)
    replace HA := Lib.hid (HA.out.below hb)
    clear hb
    go_wp2
    go_ret
    exact ⟨rfl, HW2.out⟩
  replace g := Int.not_lt.1 g
  have hb1 := g
  clear g
  by_cases h : 0 ≤ a ∧ a % 2 = 0 ∧ 0 ≤ b ∧ b % 2 = 0
  · exact odd_yes a b A l c (a / 2) (b / 2) (by omega) ha1 (by omega) hb1 (by omega) (by omega) hT GW hh w HA
  · exact odd_no a b A l c ha0 ha1 hb0 hb1 (by omega) hT GW hh w HA
end Go.Proofs.Ytigmgnoiinljpaa
