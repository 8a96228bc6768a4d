/- CursorAsks, walked where both are places, the head beyond n. Condition: as said. -/
import Derived.Test.YtigmgnoiinljpaaKA0
/- CursorAsks, walked where both are places, the head beyond n. Condition: as said. -/
namespace Go.Proofs.Ytigmgnoiinljpaa
open Go.RowKit Go.Deep Ieee
attribute [-go_sem] binOp_float_cmp_eql binOp_float_cmp_neq binOp_float_cmp_lss binOp_float_cmp_leq binOp_float_cmp_gtr binOp_float_cmp_geq run_eql_complex run_neq_complex run_min_int2 run_max_int2
attribute [local irreducible] floatOfInt
set_option maxHeartbeats 16000000 in
set_option maxRecDepth 100000 in
theorem asks_yes2 (x y z n : Int) (d1 : x ≤ n) (d2 : ¬ y ≤ n) (hx0 : 0 ≤ x) (hx1 : x ≤ 1099511627776) (hy0 : 0 ≤ y) (hy1 : y ≤ 1099511627776) (hz : Fit64 z) (w : World) :
    Calls Try.prog 3 #[.int .i64 x, .int .i64 y, .int .i64 z, .int .i64 n] w fun e w' => e = .returned (.bool true) ∧ Below w.heap.size w w' := by
  have hs := sel_mk hx0 hx1 hy0 hy1
  have G1 := Lib.hid (fun w => of_yes hx0 hx1 hy0 hy1 w)
  have GA := Lib.hid (fun w => curAwake_any w)
  have GP := Lib.hid (fun w => places_yes hs w)
  have GPs := Lib.hid (fun a b x y (h : Sel a b x y) w => places_yes h w)
  have GT := Lib.hid (fun w => turn_yes hs w)
  have GS := Lib.hid (fun w => span_yes hs w)
  have GW := Lib.hid (fun w => within_yes hs n w)
  have GY := Lib.hid (fun h0 h1 w => shift_yes (n := z) hs h0 h1 w)
  have GF := Lib.hid (fun h w => shift_far (n := z) hs hz h w)
  have R1 := fne_fv hs.re hs.re (r := false) (by simp)
  have R2 := fne_fv hs.im hs.im (r := false) (by simp)
  have R3 := (rMinMax x y).1
  have R4 := (rMinMax x y).2
  have hm : min x y ≤ x ∧ min x y ≤ y ∧ 0 ≤ min x y := by omega
  have hM : x ≤ max x y ∧ y ≤ max x y ∧ max x y ≤ 1099511627776 ∧ (max x y = x ∨ max x y = y) := by omega
  generalize min x y = m at GS GY GF R3 hm
  generalize max x y = M at GS GW GY GF R4 hM
  obtain ⟨hm1, hm2, hm3⟩ := hm
  obtain ⟨hM1, hM2, hM3, hM4⟩ := hM
  have S0 : Sel 0 0 0 0 := ⟨FV.c0, FV.c0, by omega, by omega, by omega, by omega⟩
  have G0 := Lib.hid (fun w => places_yes S0 w)
  unfold Fit64 at hz
  have g4 : decide (y ≤ 1099511627776) = true := decide_eq_true (by omega)
  clear hs S0
  rw [decide_eq_false (show ¬ M ≤ n by omega)] at GW
  go_enter Try.func3, Try.ntmps3
  go_wp2_with fail
  refine (G1.out _).mono ?_
  rintro e w1 ⟨rfl, rfl⟩
  go_wp2_with fail
  refine (GP.out _).mono ?_
  rintro e w1 ⟨rfl, rfl⟩
  go_wp2_with fail
  refine (GT.out _).mono ?_
  rintro e w1 ⟨⟨a2, b2, rfl, ht⟩, rfl⟩
  have HT := Lib.hid ht
  clear ht
  go_wp2_with fail
  refine (GPs.out _ _ _ _ HT.out _).mono ?_
  rintro e w1 ⟨rfl, rfl⟩
  go_wp2_with fail
  refine (GS.out _).mono ?_
  rintro e w1 ⟨rfl, rfl⟩
  go_wp2_with fail
  refine (GW.out _).mono ?_
  rintro e w1 ⟨rfl, rfl⟩
  by_cases c1 : 0 ≤ m + z
  · by_cases c2 : M + z ≤ 1099511627776
    · replace GY := Lib.hid (GY.out c1 c2)
      clear GF
      go_wp2_with fail
      refine (GY.out _).mono ?_
      rintro e w1 ⟨⟨i, j, rfl, hd⟩, rfl⟩
      have HD := Lib.hid hd
      clear hd
      go_wp2_with fail
      refine (GPs.out _ _ _ _ HD.out _).mono ?_
      rintro e w1 ⟨rfl, rfl⟩
      go_wp2_with fail
      refine (GA.out _).mono ?_
      rintro e w2 ⟨rfl, hb⟩
      have HB := Lib.hid hb
      clear hb
      go_wp2
      go_ret
      exact ⟨rfl, HB.out⟩
    · replace GF := Lib.hid (GF.out (fun h => c2 h.2))
      clear GY
      go_wp2_with fail
      refine (GF.out _).mono ?_
      rintro e w1 ⟨rfl, rfl⟩
      go_wp2_with fail
      refine (G0.out _).mono ?_
      rintro e w1 ⟨rfl, rfl⟩
      go_wp2_with fail
      refine (GA.out _).mono ?_
      rintro e w2 ⟨rfl, hb⟩
      have HB := Lib.hid hb
      clear hb
      go_wp2
      go_ret
      exact ⟨rfl, HB.out⟩
  · replace GF := Lib.hid (GF.out (fun h => c1 h.1))
    clear GY
    go_wp2_with fail
    refine (GF.out _).mono ?_
    rintro e w1 ⟨rfl, rfl⟩
    go_wp2_with fail
    refine (G0.out _).mono ?_
    rintro e w1 ⟨rfl, rfl⟩
    go_wp2_with fail
    refine (GA.out _).mono ?_
    rintro e w2 ⟨rfl, hb⟩
    have HB := Lib.hid hb
    clear hb
    go_wp2
    go_ret
    exact ⟨rfl, HB.out⟩
end Go.Proofs.Ytigmgnoiinljpaa
