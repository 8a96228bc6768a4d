/- GridSteps, walked: a step goes so many columns and lines, and is held within the text. Condition: what memory may hold. -/
import Derived.Test.YtgenphpaidanhaaGridKit
import Derived.Test.YtgenphpaidanhaaRound
namespace Go.Proofs.Ytgenphpaidanhaa
open Go.RowKit Go.Deep Ieee
attribute [-go_sem] binOp_float_cmp_eql binOp_float_cmp_neq binOp_float_cmp_lss binOp_float_cmp_leq binOp_float_cmp_gtr binOp_float_cmp_geq run_eql_complex run_neq_complex run_min_int2 run_max_int2
attribute [local irreducible] floatOfInt

theorem FV.cMinus : FV 13830554455654793216 (-16) := ⟨true, 4503599627370496, -52, rfl, fun h => by omega, fun _ => ⟨by omega, by omega, rfl, rfl, by omega⟩⟩

set_option maxHeartbeats 16000000 in
set_option maxRecDepth 100000 in
theorem steps_long (l : List Nat) (place ri dn : Int) (h : 300 < l.length) (w : World) :
    Calls Try.prog 5 #[.string (bstr l), .int .i64 place, .int .i64 ri, .int .i64 dn] w fun e w' => e = .returned (.bool true) ∧ Below w.heap.size w w' := by
  have GA := Lib.hid (fun w => gridAwake_any w)
  have HW0 := Lib.hid (Below.refl w.heap.size w)
  have HSZ := bstr_size l
  go_enter Try.func5, Try.ntmps5
  go_wp2_with fail
  refine (GA.out _).mono ?_
  rintro e w1 ⟨rfl, hb⟩
  have HW1 : Hid (Below w.heap.size w w1) := HW0.out.trans (hb.mono HW0.out.size)
  clear hb
  go_wp2
  go_ret
  exact ⟨rfl, HW1.out⟩
set_option maxHeartbeats 16000000 in
set_option maxRecDepth 100000 in
theorem steps_r1 (l : List Nat) (place ri dn : Int) {vs : List Nat} (hv : V l vs) (h300 : ((l.length : Nat) : Int) ≤ 300) (h : ri < -2097152) (w : World) :
    Calls Try.prog 5 #[.string (bstr l), .int .i64 place, .int .i64 ri, .int .i64 dn] w fun e w' => e = .returned (.bool true) ∧ Below w.heap.size w w' := by
  have GA := Lib.hid (fun w => gridAwake_any w)
  have HW0 := Lib.hid (Below.refl w.heap.size w)
  have HSZ := bstr_size l
  have hl : l.length ≤ 1099511627776 := by omega
  have GV := Lib.hid (fun w => refValid_any l hv.lt hl w)
  rw [validB_yes hv] at GV
  clear hv
  go_enter Try.func5, Try.ntmps5
  go_wp2_with fail
  refine (GV.out _).mono ?_
  rintro e w1 ⟨rfl, hb⟩
  have HW1 : Hid (Below w.heap.size w w1) := HW0.out.trans (hb.mono HW0.out.size)
  clear hb
  go_wp2_with fail
  refine (GA.out _).mono ?_
  rintro e w2 ⟨rfl, hb⟩
  have HW2 : Hid (Below w.heap.size w w2) := HW1.out.trans (hb.mono HW1.out.size)
  clear hb
  go_wp2
  go_ret
  exact ⟨rfl, HW2.out⟩
set_option maxHeartbeats 16000000 in
set_option maxRecDepth 100000 in
theorem steps_r2 (l : List Nat) (place ri dn : Int) {vs : List Nat} (hv : V l vs) (h300 : ((l.length : Nat) : Int) ≤ 300) (h0 : -2097152 ≤ ri) (h : 2097152 < ri) (w : World) :
    Calls Try.prog 5 #[.string (bstr l), .int .i64 place, .int .i64 ri, .int .i64 dn] w fun e w' => e = .returned (.bool true) ∧ Below w.heap.size w w' := by
  have GA := Lib.hid (fun w => gridAwake_any w)
  have HW0 := Lib.hid (Below.refl w.heap.size w)
  have HSZ := bstr_size l
  have hl : l.length ≤ 1099511627776 := by omega
  have GV := Lib.hid (fun w => refValid_any l hv.lt hl w)
  rw [validB_yes hv] at GV
  clear hv
  go_enter Try.func5, Try.ntmps5
  go_wp2_with fail
  refine (GV.out _).mono ?_
  rintro e w1 ⟨rfl, hb⟩
  have HW1 : Hid (Below w.heap.size w w1) := HW0.out.trans (hb.mono HW0.out.size)
  clear hb
  go_wp2_with fail
  refine (GA.out _).mono ?_
  rintro e w2 ⟨rfl, hb⟩
  have HW2 : Hid (Below w.heap.size w w2) := HW1.out.trans (hb.mono HW1.out.size)
  clear hb
  go_wp2
  go_ret
  exact ⟨rfl, HW2.out⟩
set_option maxHeartbeats 16000000 in
set_option maxRecDepth 100000 in
theorem steps_d1 (l : List Nat) (place ri dn : Int) {vs : List Nat} (hv : V l vs) (h300 : ((l.length : Nat) : Int) ≤ 300) (h0 : -2097152 ≤ ri) (h1 : ri ≤ 2097152) (h : dn < -2097152) (w : World) :
    Calls Try.prog 5 #[.string (bstr l), .int .i64 place, .int .i64 ri, .int .i64 dn] w fun e w' => e = .returned (.bool true) ∧ Below w.heap.size w w' := by
  have GA := Lib.hid (fun w => gridAwake_any w)
  have HW0 := Lib.hid (Below.refl w.heap.size w)
  have HSZ := bstr_size l
  have hl : l.length ≤ 1099511627776 := by omega
  have GV := Lib.hid (fun w => refValid_any l hv.lt hl w)
  rw [validB_yes hv] at GV
  clear hv
  go_enter Try.func5, Try.ntmps5
  go_wp2_with fail
  refine (GV.out _).mono ?_
  rintro e w1 ⟨rfl, hb⟩
  have HW1 : Hid (Below w.heap.size w w1) := HW0.out.trans (hb.mono HW0.out.size)
  clear hb
  go_wp2_with fail
  refine (GA.out _).mono ?_
  rintro e w2 ⟨rfl, hb⟩
  have HW2 : Hid (Below w.heap.size w w2) := HW1.out.trans (hb.mono HW1.out.size)
  clear hb
  go_wp2
  go_ret
  exact ⟨rfl, HW2.out⟩
set_option maxHeartbeats 16000000 in
set_option maxRecDepth 100000 in
theorem steps_d2 (l : List Nat) (place ri dn : Int) {vs : List Nat} (hv : V l vs) (h300 : ((l.length : Nat) : Int) ≤ 300) (h0 : -2097152 ≤ ri) (h1 : ri ≤ 2097152) (h2 : -2097152 ≤ dn) (h : 2097152 < dn) (w : World) :
    Calls Try.prog 5 #[.string (bstr l), .int .i64 place, .int .i64 ri, .int .i64 dn] w fun e w' => e = .returned (.bool true) ∧ Below w.heap.size w w' := by
  have GA := Lib.hid (fun w => gridAwake_any w)
  have HW0 := Lib.hid (Below.refl w.heap.size w)
  have HSZ := bstr_size l
  have hl : l.length ≤ 1099511627776 := by omega
  have GV := Lib.hid (fun w => refValid_any l hv.lt hl w)
  rw [validB_yes hv] at GV
  clear hv
  go_enter Try.func5, Try.ntmps5
  go_wp2_with fail
  refine (GV.out _).mono ?_
  rintro e w1 ⟨rfl, hb⟩
  have HW1 : Hid (Below w.heap.size w w1) := HW0.out.trans (hb.mono HW0.out.size)
  clear hb
  go_wp2_with fail
  refine (GA.out _).mono ?_
  rintro e w2 ⟨rfl, hb⟩
  have HW2 : Hid (Below w.heap.size w w2) := HW1.out.trans (hb.mono HW1.out.size)
  clear hb
  go_wp2
  go_ret
  exact ⟨rfl, HW2.out⟩
set_option maxHeartbeats 16000000 in
set_option maxRecDepth 100000 in
theorem steps_none (l : List Nat) (place ri dn : Int) (hv : ¬ ∃ vs, V l vs) (hb : ∀ x ∈ l, x < 256) (h300 : ((l.length : Nat) : Int) ≤ 300) (w : World) :
    Calls Try.prog 5 #[.string (bstr l), .int .i64 place, .int .i64 ri, .int .i64 dn] w fun e w' => e = .returned (.bool true) ∧ Below w.heap.size w w' := by
  have GA := Lib.hid (fun w => gridAwake_any w)
  have HW0 := Lib.hid (Below.refl w.heap.size w)
  have HSZ := bstr_size l
  have GV := Lib.hid (fun w => refValid_any l hb (by omega) w)
  rw [validB_no hv] at GV
  clear hb hv
  go_enter Try.func5, Try.ntmps5
  go_wp2_with fail
  refine (GV.out _).mono ?_
  rintro e w1 ⟨rfl, hb⟩
  have HW1 : Hid (Below w.heap.size w w1) := HW0.out.trans (hb.mono HW0.out.size)
  clear hb
  go_wp2_with fail
  refine (GA.out _).mono ?_
  rintro e w2 ⟨rfl, hb⟩
  have HW2 : Hid (Below w.heap.size w w2) := HW1.out.trans (hb.mono HW1.out.size)
  clear hb
  go_wp2
  go_ret
  exact ⟨rfl, HW2.out⟩
set_option maxHeartbeats 16000000 in
set_option maxRecDepth 100000 in
theorem steps_a1 (l : List Nat) (place ri dn : Int) {vs : List Nat} (hv : V l vs) (h300 : ((l.length : Nat) : Int) ≤ 300) (h0 : -2097152 ≤ ri) (h1 : ri ≤ 2097152) (h2 : -2097152 ≤ dn) (h3 : dn ≤ 2097152) (h : ri < -1048576) (w : World) :
    Calls Try.prog 5 #[.string (bstr l), .int .i64 place, .int .i64 ri, .int .i64 dn] w fun e w' => e = .returned (.bool true) ∧ Below w.heap.size w w' := by
  have GA := Lib.hid (fun w => gridAwake_any w)
  have HW0 := Lib.hid (Below.refl w.heap.size w)
  have HSZ := bstr_size l
  have hl : l.length ≤ 1099511627776 := by omega
  have GV := Lib.hid (fun w => refValid_any l hv.lt hl w)
  rw [validB_yes hv] at GV
  have GC := Lib.hid (fun w => refCount_yes hv hl w)
  have hvl := hv.length_le
  have GRD := Lib.hid (fun w => alikeRound_any place (vs.length + 1) (by omega) (by omega) w)
  have hq := rnd_lt place (n := vs.length + 1) (by omega)
  rw [show ((vs.length + 1 : Nat) : Int) = (vs.length : Int) + 1 by omega] at GRD
  generalize rnd place (vs.length + 1) = q at GRD hq
  have hql : q ≤ vs.length := by omega
  have GAT := Lib.hid (fun w => at_yes hv hl hql w)
  have FR := FV.ofInt (n := ri) (by omega)
  have FD := FV.ofInt (n := dn) (by omega)
  have e2 : (0 : Int) ≤ (vs.length : Int) := by omega
  have e3 : (vs.length : Int) ≤ 300 := by omega
  have hno : ¬ (isNear (16 * ri) = true ∧ isNear (16 * dn) = true) := by
    rintro ⟨n1, n2⟩
    unfold isNear at n1 n2
    have n1 := of_decide_eq_true n1
    have n2 := of_decide_eq_true n2
    omega
  have GST := Lib.hid (fun a b (h : PtV a b (col vs q : Int) (lin vs q : Int)) w => step_far hv hl hql h FR FD hno w)
  have R1 := ceq_fv FV.c0 FV.c0 FV.c0 FV.c0 (r := true) (by simp)
  clear hv FR FD hno hq hql
  go_enter Try.func5, Try.ntmps5
  go_wp2_with fail
  refine (GV.out _).mono ?_
  rintro e w1 ⟨rfl, hb⟩
  have HW1 : Hid (Below w.heap.size w w1) := HW0.out.trans (hb.mono HW0.out.size)
  clear hb
  go_wp2_with fail
  refine (GC.out _).mono ?_
  rintro e w2 ⟨rfl, hb⟩
  have HW2 : Hid (Below w.heap.size w w2) := HW1.out.trans (hb.mono HW1.out.size)
  clear hb
  go_wp2_with fail
  refine (GRD.out _).mono ?_
  rintro e v ⟨rfl, rfl⟩
  go_wp2_with fail
  refine (GAT.out _).mono ?_
  rintro e w3 ⟨⟨a, b, rfl, hp⟩, hb⟩
  have HW3 : Hid (Below w.heap.size w w3) := HW2.out.trans (hb.mono HW2.out.size)
  have HP := Lib.hid hp
  clear hp
  clear hb
  go_wp2_with fail
  refine (GST.out _ _ HP.out _).mono ?_
  rintro e w4 ⟨rfl, hb⟩
  have HW4 : Hid (Below w.heap.size w w4) := HW3.out.trans (hb.mono HW3.out.size)
  clear hb
  go_wp2_with fail
  refine (GA.out _).mono ?_
  rintro e w5 ⟨rfl, hb⟩
  have HW5 : Hid (Below w.heap.size w w5) := HW4.out.trans (hb.mono HW4.out.size)
  clear hb
  go_wp2
  go_ret
  exact ⟨rfl, HW5.out⟩
set_option maxHeartbeats 16000000 in
set_option maxRecDepth 100000 in
theorem steps_a2 (l : List Nat) (place ri dn : Int) {vs : List Nat} (hv : V l vs) (h300 : ((l.length : Nat) : Int) ≤ 300) (h0 : -2097152 ≤ ri) (h1 : ri ≤ 2097152) (h2 : -2097152 ≤ dn) (h3 : dn ≤ 2097152) (h4 : -1048576 ≤ ri) (h : 1048576 < ri) (w : World) :
    Calls Try.prog 5 #[.string (bstr l), .int .i64 place, .int .i64 ri, .int .i64 dn] w fun e w' => e = .returned (.bool true) ∧ Below w.heap.size w w' := by
  have GA := Lib.hid (fun w => gridAwake_any w)
  have HW0 := Lib.hid (Below.refl w.heap.size w)
  have HSZ := bstr_size l
  have hl : l.length ≤ 1099511627776 := by omega
  have GV := Lib.hid (fun w => refValid_any l hv.lt hl w)
  rw [validB_yes hv] at GV
  have GC := Lib.hid (fun w => refCount_yes hv hl w)
  have hvl := hv.length_le
  have GRD := Lib.hid (fun w => alikeRound_any place (vs.length + 1) (by omega) (by omega) w)
  have hq := rnd_lt place (n := vs.length + 1) (by omega)
  rw [show ((vs.length + 1 : Nat) : Int) = (vs.length : Int) + 1 by omega] at GRD
  generalize rnd place (vs.length + 1) = q at GRD hq
  have hql : q ≤ vs.length := by omega
  have GAT := Lib.hid (fun w => at_yes hv hl hql w)
  have FR := FV.ofInt (n := ri) (by omega)
  have FD := FV.ofInt (n := dn) (by omega)
  have e2 : (0 : Int) ≤ (vs.length : Int) := by omega
  have e3 : (vs.length : Int) ≤ 300 := by omega
  have hno : ¬ (isNear (16 * ri) = true ∧ isNear (16 * dn) = true) := by
    rintro ⟨n1, n2⟩
    unfold isNear at n1 n2
    have n1 := of_decide_eq_true n1
    have n2 := of_decide_eq_true n2
    omega
  have GST := Lib.hid (fun a b (h : PtV a b (col vs q : Int) (lin vs q : Int)) w => step_far hv hl hql h FR FD hno w)
  have R1 := ceq_fv FV.c0 FV.c0 FV.c0 FV.c0 (r := true) (by simp)
  clear hv FR FD hno hq hql
  go_enter Try.func5, Try.ntmps5
  go_wp2_with fail
  refine (GV.out _).mono ?_
  rintro e w1 ⟨rfl, hb⟩
  have HW1 : Hid (Below w.heap.size w w1) := HW0.out.trans (hb.mono HW0.out.size)
  clear hb
  go_wp2_with fail
  refine (GC.out _).mono ?_
  rintro e w2 ⟨rfl, hb⟩
  have HW2 : Hid (Below w.heap.size w w2) := HW1.out.trans (hb.mono HW1.out.size)
  clear hb
  go_wp2_with fail
  refine (GRD.out _).mono ?_
  rintro e v ⟨rfl, rfl⟩
  go_wp2_with fail
  refine (GAT.out _).mono ?_
  rintro e w3 ⟨⟨a, b, rfl, hp⟩, hb⟩
  have HW3 : Hid (Below w.heap.size w w3) := HW2.out.trans (hb.mono HW2.out.size)
  have HP := Lib.hid hp
  clear hp
  clear hb
  go_wp2_with fail
  refine (GST.out _ _ HP.out _).mono ?_
  rintro e w4 ⟨rfl, hb⟩
  have HW4 : Hid (Below w.heap.size w w4) := HW3.out.trans (hb.mono HW3.out.size)
  clear hb
  go_wp2_with fail
  refine (GA.out _).mono ?_
  rintro e w5 ⟨rfl, hb⟩
  have HW5 : Hid (Below w.heap.size w w5) := HW4.out.trans (hb.mono HW4.out.size)
  clear hb
  go_wp2
  go_ret
  exact ⟨rfl, HW5.out⟩
set_option maxHeartbeats 16000000 in
set_option maxRecDepth 100000 in
theorem steps_a3 (l : List Nat) (place ri dn : Int) {vs : List Nat} (hv : V l vs) (h300 : ((l.length : Nat) : Int) ≤ 300) (h0 : -2097152 ≤ ri) (h1 : ri ≤ 2097152) (h2 : -2097152 ≤ dn) (h3 : dn ≤ 2097152) (h4 : -1048576 ≤ ri) (h5 : ri ≤ 1048576) (h : dn < -1048576) (w : World) :
    Calls Try.prog 5 #[.string (bstr l), .int .i64 place, .int .i64 ri, .int .i64 dn] w fun e w' => e = .returned (.bool true) ∧ Below w.heap.size w w' := by
  have GA := Lib.hid (fun w => gridAwake_any w)
  have HW0 := Lib.hid (Below.refl w.heap.size w)
  have HSZ := bstr_size l
  have hl : l.length ≤ 1099511627776 := by omega
  have GV := Lib.hid (fun w => refValid_any l hv.lt hl w)
  rw [validB_yes hv] at GV
  have GC := Lib.hid (fun w => refCount_yes hv hl w)
  have hvl := hv.length_le
  have GRD := Lib.hid (fun w => alikeRound_any place (vs.length + 1) (by omega) (by omega) w)
  have hq := rnd_lt place (n := vs.length + 1) (by omega)
  rw [show ((vs.length + 1 : Nat) : Int) = (vs.length : Int) + 1 by omega] at GRD
  generalize rnd place (vs.length + 1) = q at GRD hq
  have hql : q ≤ vs.length := by omega
  have GAT := Lib.hid (fun w => at_yes hv hl hql w)
  have FR := FV.ofInt (n := ri) (by omega)
  have FD := FV.ofInt (n := dn) (by omega)
  have e2 : (0 : Int) ≤ (vs.length : Int) := by omega
  have e3 : (vs.length : Int) ≤ 300 := by omega
  have hno : ¬ (isNear (16 * ri) = true ∧ isNear (16 * dn) = true) := by
    rintro ⟨n1, n2⟩
    unfold isNear at n1 n2
    have n1 := of_decide_eq_true n1
    have n2 := of_decide_eq_true n2
    omega
  have GST := Lib.hid (fun a b (h : PtV a b (col vs q : Int) (lin vs q : Int)) w => step_far hv hl hql h FR FD hno w)
  have R1 := ceq_fv FV.c0 FV.c0 FV.c0 FV.c0 (r := true) (by simp)
  clear hv FR FD hno hq hql
  go_enter Try.func5, Try.ntmps5
  go_wp2_with fail
  refine (GV.out _).mono ?_
  rintro e w1 ⟨rfl, hb⟩
  have HW1 : Hid (Below w.heap.size w w1) := HW0.out.trans (hb.mono HW0.out.size)
  clear hb
  go_wp2_with fail
  refine (GC.out _).mono ?_
  rintro e w2 ⟨rfl, hb⟩
  have HW2 : Hid (Below w.heap.size w w2) := HW1.out.trans (hb.mono HW1.out.size)
  clear hb
  go_wp2_with fail
  refine (GRD.out _).mono ?_
  rintro e v ⟨rfl, rfl⟩
  go_wp2_with fail
  refine (GAT.out _).mono ?_
  rintro e w3 ⟨⟨a, b, rfl, hp⟩, hb⟩
  have HW3 : Hid (Below w.heap.size w w3) := HW2.out.trans (hb.mono HW2.out.size)
  have HP := Lib.hid hp
  clear hp
  clear hb
  go_wp2_with fail
  refine (GST.out _ _ HP.out _).mono ?_
  rintro e w4 ⟨rfl, hb⟩
  have HW4 : Hid (Below w.heap.size w w4) := HW3.out.trans (hb.mono HW3.out.size)
  clear hb
  go_wp2_with fail
  refine (GA.out _).mono ?_
  rintro e w5 ⟨rfl, hb⟩
  have HW5 : Hid (Below w.heap.size w w5) := HW4.out.trans (hb.mono HW4.out.size)
  clear hb
  go_wp2
  go_ret
  exact ⟨rfl, HW5.out⟩
set_option maxHeartbeats 16000000 in
set_option maxRecDepth 100000 in
theorem steps_a4 (l : List Nat) (place ri dn : Int) {vs : List Nat} (hv : V l vs) (h300 : ((l.length : Nat) : Int) ≤ 300) (h0 : -2097152 ≤ ri) (h1 : ri ≤ 2097152) (h2 : -2097152 ≤ dn) (h3 : dn ≤ 2097152) (h4 : -1048576 ≤ ri) (h5 : ri ≤ 1048576) (h6 : -1048576 ≤ dn) (h : 1048576 < dn) (w : World) :
    Calls Try.prog 5 #[.string (bstr l), .int .i64 place, .int .i64 ri, .int .i64 dn] w fun e w' => e = .returned (.bool true) ∧ Below w.heap.size w w' := by
  have GA := Lib.hid (fun w => gridAwake_any w)
  have HW0 := Lib.hid (Below.refl w.heap.size w)
  have HSZ := bstr_size l
  have hl : l.length ≤ 1099511627776 := by omega
  have GV := Lib.hid (fun w => refValid_any l hv.lt hl w)
  rw [validB_yes hv] at GV
  have GC := Lib.hid (fun w => refCount_yes hv hl w)
  have hvl := hv.length_le
  have GRD := Lib.hid (fun w => alikeRound_any place (vs.length + 1) (by omega) (by omega) w)
  have hq := rnd_lt place (n := vs.length + 1) (by omega)
  rw [show ((vs.length + 1 : Nat) : Int) = (vs.length : Int) + 1 by omega] at GRD
  generalize rnd place (vs.length + 1) = q at GRD hq
  have hql : q ≤ vs.length := by omega
  have GAT := Lib.hid (fun w => at_yes hv hl hql w)
  have FR := FV.ofInt (n := ri) (by omega)
  have FD := FV.ofInt (n := dn) (by omega)
  have e2 : (0 : Int) ≤ (vs.length : Int) := by omega
  have e3 : (vs.length : Int) ≤ 300 := by omega
  have hno : ¬ (isNear (16 * ri) = true ∧ isNear (16 * dn) = true) := by
    rintro ⟨n1, n2⟩
    unfold isNear at n1 n2
    have n1 := of_decide_eq_true n1
    have n2 := of_decide_eq_true n2
    omega
  have GST := Lib.hid (fun a b (h : PtV a b (col vs q : Int) (lin vs q : Int)) w => step_far hv hl hql h FR FD hno w)
  have R1 := ceq_fv FV.c0 FV.c0 FV.c0 FV.c0 (r := true) (by simp)
  clear hv FR FD hno hq hql
  go_enter Try.func5, Try.ntmps5
  go_wp2_with fail
  refine (GV.out _).mono ?_
  rintro e w1 ⟨rfl, hb⟩
  have HW1 : Hid (Below w.heap.size w w1) := HW0.out.trans (hb.mono HW0.out.size)
  clear hb
  go_wp2_with fail
  refine (GC.out _).mono ?_
  rintro e w2 ⟨rfl, hb⟩
  have HW2 : Hid (Below w.heap.size w w2) := HW1.out.trans (hb.mono HW1.out.size)
  clear hb
  go_wp2_with fail
  refine (GRD.out _).mono ?_
  rintro e v ⟨rfl, rfl⟩
  go_wp2_with fail
  refine (GAT.out _).mono ?_
  rintro e w3 ⟨⟨a, b, rfl, hp⟩, hb⟩
  have HW3 : Hid (Below w.heap.size w w3) := HW2.out.trans (hb.mono HW2.out.size)
  have HP := Lib.hid hp
  clear hp
  clear hb
  go_wp2_with fail
  refine (GST.out _ _ HP.out _).mono ?_
  rintro e w4 ⟨rfl, hb⟩
  have HW4 : Hid (Below w.heap.size w w4) := HW3.out.trans (hb.mono HW3.out.size)
  clear hb
  go_wp2_with fail
  refine (GA.out _).mono ?_
  rintro e w5 ⟨rfl, hb⟩
  have HW5 : Hid (Below w.heap.size w w5) := HW4.out.trans (hb.mono HW4.out.size)
  clear hb
  go_wp2
  go_ret
  exact ⟨rfl, HW5.out⟩
set_option maxHeartbeats 16000000 in
set_option maxRecDepth 100000 in
theorem steps_in (l : List Nat) (place ri dn : Int) {vs : List Nat} (hv : V l vs) (h300 : ((l.length : Nat) : Int) ≤ 300) (h0 : -2097152 ≤ ri) (h1 : ri ≤ 2097152) (h2 : -2097152 ≤ dn) (h3 : dn ≤ 2097152) (h4 : -1048576 ≤ ri) (h5 : ri ≤ 1048576) (h6 : -1048576 ≤ dn) (h7 : dn ≤ 1048576) (w : World) :
    Calls Try.prog 5 #[.string (bstr l), .int .i64 place, .int .i64 ri, .int .i64 dn] w fun e w' => e = .returned (.bool true) ∧ Below w.heap.size w w' := by
  have GA := Lib.hid (fun w => gridAwake_any w)
  have HW0 := Lib.hid (Below.refl w.heap.size w)
  have HSZ := bstr_size l
  have hl : l.length ≤ 1099511627776 := by omega
  have GV := Lib.hid (fun w => refValid_any l hv.lt hl w)
  rw [validB_yes hv] at GV
  have GC := Lib.hid (fun w => refCount_yes hv hl w)
  have hvl := hv.length_le
  have GRD := Lib.hid (fun w => alikeRound_any place (vs.length + 1) (by omega) (by omega) w)
  have hq := rnd_lt place (n := vs.length + 1) (by omega)
  rw [show ((vs.length + 1 : Nat) : Int) = (vs.length : Int) + 1 by omega] at GRD
  generalize rnd place (vs.length + 1) = q at GRD hq
  have hql : q ≤ vs.length := by omega
  have GAT := Lib.hid (fun w => at_yes hv hl hql w)
  have FR := FV.ofInt (n := ri) (by omega)
  have FD := FV.ofInt (n := dn) (by omega)
  have e2 : (0 : Int) ≤ (vs.length : Int) := by omega
  have e3 : (vs.length : Int) ≤ 300 := by omega
  have hlq := lin_lst vs hql
  have hcq := col_le vs q
  obtain ⟨L, hL⟩ : ∃ L : Nat, (L : Int) = min (max ((lin vs q : Int) + dn) 0) (lst vs : Int) := ⟨(min (max ((lin vs q : Int) + dn) 0) (lst vs : Int)).toNat, by omega⟩
  have hLl : L ≤ lst vs := by omega
  obtain ⟨C, hC⟩ : ∃ C : Int, C = min (max ((col vs q : Int) + ri) 0) (wdt vs L : Int) := ⟨_, rfl⟩
  obtain ⟨M1, hM1⟩ : ∃ m, max ((lin vs q : Int) + dn) 0 = m := ⟨_, rfl⟩
  obtain ⟨M2, hM2⟩ : ∃ m, max ((col vs q : Int) + ri) 0 = m := ⟨_, rfl⟩
  have K1 := rMax ((lin vs q : Int) + dn) 0 hM1
  have K2 := rMin M1 (lst vs : Int) (m := (L : Int)) (by omega)
  have K3 := rMax ((col vs q : Int) + ri) 0 hM2
  have K4 := rMin M2 (wdt vs L : Int) (m := C) (by omega)
  have hwl := wdt_le vs hLl
  have hls := lst_le vs
  have HF1 := Lib.hid (FV.ofInt (n := C) (by omega))
  have HF2 := Lib.hid (FV.ofInt (n := (L : Int)) (by omega))
  have GST := Lib.hid (fun a b (h : PtV a b (col vs q : Int) (lin vs q : Int)) w => step_yes hv hl hql h (a := ri) (b := dn) ⟨FR, FD⟩ h4 h5 h6 h7 hL hC w)
  have GS2 := Lib.hid (fun a b (h : PtV a b (col vs q : Int) (lin vs q : Int)) w => step_far hv hl hql h FV.cQuarter FV.c0 (fun hh => by have := of_decide_eq_true hh.1; omega) w)
  have GS3 := Lib.hid (fun w => step_none hv hl FV.cMinus FV.c0 (fun q _ h => by omega) 0 0 w)
  have GR := Lib.hid (fun w => kRefLines hv hl w)
  have GRA := Lib.hid (fun w => refAt_yes hv hl hql w)
  have HWG := Lib.hid (wide_get vs hLl)
  have e0 : ((lst vs + 1 : Nat) : Int) = (lst vs : Int) + 1 := by omega
  have e1 : (lst vs : Int) ≤ 300 := by omega
  have e4 : (0 : Int) ≤ (lin vs q : Int) := by omega
  have e5 : (lin vs q : Int) ≤ 300 := by omega
  have e6 : (0 : Int) ≤ (col vs q : Int) := by omega
  have e7 : (col vs q : Int) ≤ 300 := by omega
  have e8 : L < lst vs + 1 := by omega
  have e9 : (L : Int) < (lst vs : Int) + 1 := by omega
  have e10 : (0 : Int) ≤ (L : Int) := by omega
  clear hv FR FD hq hql hL hC hM1 hM2 hlq hcq hLl hwl hls
  go_enter Try.func5, Try.ntmps5
  go_wp2_with fail
  refine (GV.out _).mono ?_
  rintro e w1 ⟨rfl, hb⟩
  have HW1 : Hid (Below w.heap.size w w1) := HW0.out.trans (hb.mono HW0.out.size)
  clear hb
  go_wp2_with fail
  refine (GC.out _).mono ?_
  rintro e w2 ⟨rfl, hb⟩
  have HW2 : Hid (Below w.heap.size w w2) := HW1.out.trans (hb.mono HW1.out.size)
  clear hb
  go_wp2_with fail
  refine (GRD.out _).mono ?_
  rintro e v ⟨rfl, rfl⟩
  go_wp2_with fail
  refine (GAT.out _).mono ?_
  rintro e w3 ⟨⟨a, b, rfl, hp⟩, hb⟩
  have HW3 : Hid (Below w.heap.size w w3) := HW2.out.trans (hb.mono HW2.out.size)
  have HP := Lib.hid hp
  clear hp
  clear hb
  go_wp2_with fail
  refine (GST.out _ _ HP.out _).mono ?_
  rintro e w4 ⟨⟨r, s, rfl, hp⟩, hb⟩
  have HW4 : Hid (Below w.heap.size w w4) := HW3.out.trans (hb.mono HW3.out.size)
  have R1 := ceq_fv hp.1 hp.2 HF1.out HF2.out (r := true) (by simp)
  clear hp
  clear hb
  go_wp2_with fail
  refine (GR.out _).mono ?_
  rintro e w5 ⟨⟨b1, o1, c1, b2, o2, c2, rfl, _, hd⟩, hb⟩
  have HW5 : Hid (Below w.heap.size w w5) := HW4.out.trans (hb.mono HW4.out.size)
  have HD := Lib.hid hd
  clear hd
  clear hb
  go_wp2_with fail
  refine (GRA.out _).mono ?_
  rintro e w6 ⟨rfl, hb⟩
  have HW6 : Hid (Below w.heap.size w w6) := HW5.out.trans (hb.mono HW5.out.size)
  replace HD := Lib.hid (HD.out.below hb)
  have hcell := HD.out.nat HWG.out
  clear hb
  go_wp2_with fail
  refine (GS2.out _ _ HP.out _).mono ?_
  rintro e w7 ⟨rfl, hb⟩
  have HW7 : Hid (Below w.heap.size w w7) := HW6.out.trans (hb.mono HW6.out.size)
  replace HD := Lib.hid (HD.out.below hb)
  clear hb
  go_wp2_with fail
  refine (GS3.out _).mono ?_
  rintro e w8 ⟨rfl, hb⟩
  have HW8 : Hid (Below w.heap.size w w8) := HW7.out.trans (hb.mono HW7.out.size)
  replace HD := Lib.hid (HD.out.below hb)
  clear hb
  go_wp2_with fail
  refine (GA.out _).mono ?_
  rintro e w9 ⟨rfl, hb⟩
  have HW9 : Hid (Below w.heap.size w w9) := HW8.out.trans (hb.mono HW8.out.size)
  replace HD := Lib.hid (HD.out.below hb)
  clear hb
  go_wp2
  go_ret
  exact ⟨rfl, HW9.out⟩
theorem gridSteps_any (l : List Nat) (place ri dn : Int) (hb : ∀ x ∈ l, x < 256) (_hm : l.length ≤ maxLen) (_h1 : Fit64 place) (_h2 : Fit64 ri) (_h3 : Fit64 dn) (w : World) :
    Calls Try.prog 5 #[.string (bstr l), .int .i64 place, .int .i64 ri, .int .i64 dn] w fun e w' => e = .returned (.bool true) ∧ Below w.heap.size w w' := by
  by_cases g1 : 300 < l.length
  · exact steps_long l place ri dn g1 w
  have h300 : ((l.length : Nat) : Int) ≤ 300 := by omega
  by_cases hv : ∃ vs, V l vs
  · obtain ⟨vs, hv⟩ := hv
    by_cases k1 : ri < -2097152
    · exact steps_r1 l place ri dn hv h300 k1 w
    by_cases k2 : 2097152 < ri
    · exact steps_r2 l place ri dn hv h300 (by omega) k2 w
    by_cases k3 : dn < -2097152
    · exact steps_d1 l place ri dn hv h300 (by omega) (by omega) k3 w
    by_cases k4 : 2097152 < dn
    · exact steps_d2 l place ri dn hv h300 (by omega) (by omega) (by omega) k4 w
    by_cases k5 : ri < -1048576
    · exact steps_a1 l place ri dn hv h300 (by omega) (by omega) (by omega) (by omega) k5 w
    by_cases k6 : 1048576 < ri
    · exact steps_a2 l place ri dn hv h300 (by omega) (by omega) (by omega) (by omega) (by omega) k6 w
    by_cases k7 : dn < -1048576
    · exact steps_a3 l place ri dn hv h300 (by omega) (by omega) (by omega) (by omega) (by omega) (by omega) k7 w
    by_cases k8 : 1048576 < dn
    · exact steps_a4 l place ri dn hv h300 (by omega) (by omega) (by omega) (by omega) (by omega) (by omega) (by omega) k8 w
    exact steps_in l place ri dn hv h300 (by omega) (by omega) (by omega) (by omega) (by omega) (by omega) (by omega) (by omega) w
  · exact steps_none l place ri dn hv hb h300 w
end Go.Proofs.Ytgenphpaidanhaa
