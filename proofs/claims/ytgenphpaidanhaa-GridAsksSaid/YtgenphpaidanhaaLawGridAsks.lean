/- GridAsks, walked: of any text the lines, their widths, and the point of any place, are as the document says, or refused. Condition: what memory may hold. -/
import Derived.Test.YtgenphpaidanhaaGridKit
namespace Go.Proofs.Ytgenphpaidanhaa
open Go.RowKit Go.Deep Ieee
attribute [-go_sem] binOp_float_cmp_eql binOp_float_cmp_neq binOp_float_cmp_lss binOp_float_cmp_leq binOp_float_cmp_gtr binOp_float_cmp_geq run_eql_complex run_neq_complex
attribute [local irreducible] floatOfInt

set_option maxHeartbeats 16000000 in
set_option maxRecDepth 100000 in
theorem asks_bad (l : List Nat) (place line : Int) (hv : ¬ ∃ vs, V l vs) (hb : ∀ x ∈ l, x < 256) (h500 : ((l.length : Nat) : Int) ≤ 500) (w : World) :
    Calls Try.prog 3 #[.string (bstr l), .int .i64 place, .int .i64 line] w fun e w' => e = .returned (.bool true) ∧ Below w.heap.size w w' := by
  have GA := Lib.hid (fun w => gridAwake_any w)
  have HW0 := Lib.hid (Below.refl w.heap.size w)
  have HSZ := bstr_size l
  have hl : l.length ≤ 1099511627776 := by omega
  have GL := Lib.hid (fun w => kLinesBad hv hb hl w)
  have GW := Lib.hid (fun w => width_bad hv hb hl line w)
  have GAT := Lib.hid (fun w => at_bad hv hb hl place w)
  have GV := Lib.hid (fun w => refValid_any l hb hl w)
  rw [validB_no hv] at GV
  have GP := Lib.hid (fun w => place_bad hv hb hl 0 0 w)
  have GS := Lib.hid (fun w => step_bad hv hb hl 0 0 0 0 w)
  have R1 := ceq_fv FV.c0 FV.c0 FV.c0 FV.c0 (r := true) (by simp)
  clear hl hv hb
  go_enter Try.func3, Try.ntmps3
  go_wp2_with fail
  refine (GL.out _).mono ?_
  rintro e v ⟨rfl, rfl⟩
  go_wp2_with fail
  refine (GW.out _).mono ?_
  rintro e w1 ⟨rfl, hb⟩
  have HW1 : Hid (Below w.heap.size w w1) := HW0.out.trans (hb.mono HW0.out.size)
  clear hb
  go_wp2_with fail
  refine (GAT.out _).mono ?_
  rintro e w2 ⟨rfl, hb⟩
  have HW2 : Hid (Below w.heap.size w w2) := HW1.out.trans (hb.mono HW1.out.size)
  clear hb
  go_wp2_with fail
  refine (GV.out _).mono ?_
  rintro e w3 ⟨rfl, hb⟩
  have HW3 : Hid (Below w.heap.size w w3) := HW2.out.trans (hb.mono HW2.out.size)
  clear hb
  go_wp2_with fail
  refine (GP.out _).mono ?_
  rintro e w4 ⟨rfl, hb⟩
  have HW4 : Hid (Below w.heap.size w w4) := HW3.out.trans (hb.mono HW3.out.size)
  clear hb
  go_wp2_with fail
  refine (GS.out _).mono ?_
  rintro e w5 ⟨rfl, hb⟩
  have HW5 : Hid (Below w.heap.size w w5) := HW4.out.trans (hb.mono HW4.out.size)
  clear hb
  go_wp2_with fail
  refine (GA.out _).mono ?_
  rintro e w6 ⟨rfl, hb⟩
  have HW6 : Hid (Below w.heap.size w w6) := HW5.out.trans (hb.mono HW5.out.size)
  clear hb
  go_wp2
  go_ret
  exact ⟨rfl, HW6.out⟩
set_option maxHeartbeats 16000000 in
set_option maxRecDepth 100000 in
theorem asks_low_low (l : List Nat) (line : Int) (place : Int) {vs : List Nat} (hv : V l vs) (h500 : ((l.length : Nat) : Int) ≤ 500) (hk : line < 0) (hp : place < 0) (w : World) :
    Calls Try.prog 3 #[.string (bstr l), .int .i64 place, .int .i64 line] w fun e w' => e = .returned (.bool true) ∧ Below w.heap.size w w' := by
  have GA := Lib.hid (fun w => gridAwake_any w)
  have HW0 := Lib.hid (Below.refl w.heap.size w)
  have HSZ := bstr_size l
  have hl : l.length ≤ 1099511627776 := by omega
  have GL := Lib.hid (fun w => kLines hv hl w)
  have GW := Lib.hid (fun w => width_in hv hl line w)
  rw [wOut_no (by omega), wErr_no (by omega)] at GW
  have GAT := Lib.hid (fun w => at_no hv hl (place := place) (by omega) w)
  have GV := Lib.hid (fun w => refValid_any l hv.lt hl w)
  rw [validB_yes hv] at GV
  have GR := Lib.hid (fun w => kRefLines hv hl w)
  have GC := Lib.hid (fun w => refCount_yes hv hl w)
  have e0 : ((lst vs + 1 : Nat) : Int) = (lst vs : Int) + 1 := by omega
  have e1 : (0 : Int) ≤ (lst vs : Int) := by omega
  have e2 : (0 : Int) ≤ (vs.length : Int) := by omega
  have R1 := ceq_fv FV.c0 FV.c0 FV.c0 FV.c0 (r := true) (by simp)
  clear hl hv
  go_enter Try.func3, Try.ntmps3
  go_wp2_with fail
  refine (GL.out _).mono ?_
  rintro e v ⟨rfl, rfl⟩
  go_wp2_with fail
  refine (GW.out _).mono ?_
  rintro e w1 ⟨rfl, hb⟩
  have HW1 : Hid (Below w.heap.size w w1) := HW0.out.trans (hb.mono HW0.out.size)
  clear hb
  go_wp2_with fail
  refine (GAT.out _).mono ?_
  rintro e w2 ⟨rfl, hb⟩
  have HW2 : Hid (Below w.heap.size w w2) := HW1.out.trans (hb.mono HW1.out.size)
  clear hb
  go_wp2_with fail
  refine (GV.out _).mono ?_
  rintro e w3 ⟨rfl, hb⟩
  have HW3 : Hid (Below w.heap.size w w3) := HW2.out.trans (hb.mono HW2.out.size)
  clear hb
  go_wp2_with fail
  refine (GR.out _).mono ?_
  rintro e w4 ⟨⟨b1, o1, c1, b2, o2, c2, rfl, _, hd⟩, hb⟩
  have HW4 : Hid (Below w.heap.size w w4) := HW3.out.trans (hb.mono HW3.out.size)
  clear hd
  clear hb
  go_wp2_with fail
  refine (GA.out _).mono ?_
  rintro e w5 ⟨rfl, hb⟩
  have HW5 : Hid (Below w.heap.size w w5) := HW4.out.trans (hb.mono HW4.out.size)
  clear hb
  go_wp2
  go_ret
  exact ⟨rfl, HW5.out⟩
set_option maxHeartbeats 16000000 in
set_option maxRecDepth 100000 in
theorem asks_low_high (l : List Nat) (line : Int) (place : Int) {vs : List Nat} (hv : V l vs) (h500 : ((l.length : Nat) : Int) ≤ 500) (hk : line < 0) (hp : (vs.length : Int) < place) (w : World) :
    Calls Try.prog 3 #[.string (bstr l), .int .i64 place, .int .i64 line] w fun e w' => e = .returned (.bool true) ∧ Below w.heap.size w w' := by
  have GA := Lib.hid (fun w => gridAwake_any w)
  have HW0 := Lib.hid (Below.refl w.heap.size w)
  have HSZ := bstr_size l
  have hl : l.length ≤ 1099511627776 := by omega
  have GL := Lib.hid (fun w => kLines hv hl w)
  have GW := Lib.hid (fun w => width_in hv hl line w)
  rw [wOut_no (by omega), wErr_no (by omega)] at GW
  have GAT := Lib.hid (fun w => at_no hv hl (place := place) (by omega) w)
  have GV := Lib.hid (fun w => refValid_any l hv.lt hl w)
  rw [validB_yes hv] at GV
  have GR := Lib.hid (fun w => kRefLines hv hl w)
  have GC := Lib.hid (fun w => refCount_yes hv hl w)
  have e0 : ((lst vs + 1 : Nat) : Int) = (lst vs : Int) + 1 := by omega
  have e1 : (0 : Int) ≤ (lst vs : Int) := by omega
  have e2 : (0 : Int) ≤ (vs.length : Int) := by omega
  have R1 := ceq_fv FV.c0 FV.c0 FV.c0 FV.c0 (r := true) (by simp)
  clear hl hv
  go_enter Try.func3, Try.ntmps3
  go_wp2_with fail
  refine (GL.out _).mono ?_
  rintro e v ⟨rfl, rfl⟩
  go_wp2_with fail
  refine (GW.out _).mono ?_
  rintro e w1 ⟨rfl, hb⟩
  have HW1 : Hid (Below w.heap.size w w1) := HW0.out.trans (hb.mono HW0.out.size)
  clear hb
  go_wp2_with fail
  refine (GAT.out _).mono ?_
  rintro e w2 ⟨rfl, hb⟩
  have HW2 : Hid (Below w.heap.size w w2) := HW1.out.trans (hb.mono HW1.out.size)
  clear hb
  go_wp2_with fail
  refine (GV.out _).mono ?_
  rintro e w3 ⟨rfl, hb⟩
  have HW3 : Hid (Below w.heap.size w w3) := HW2.out.trans (hb.mono HW2.out.size)
  clear hb
  go_wp2_with fail
  refine (GR.out _).mono ?_
  rintro e w4 ⟨⟨b1, o1, c1, b2, o2, c2, rfl, _, hd⟩, hb⟩
  have HW4 : Hid (Below w.heap.size w w4) := HW3.out.trans (hb.mono HW3.out.size)
  clear hd
  clear hb
  go_wp2_with fail
  refine (GC.out _).mono ?_
  rintro e w5 ⟨rfl, hb⟩
  have HW5 : Hid (Below w.heap.size w w5) := HW4.out.trans (hb.mono HW4.out.size)
  clear hb
  go_wp2_with fail
  refine (GA.out _).mono ?_
  rintro e w6 ⟨rfl, hb⟩
  have HW6 : Hid (Below w.heap.size w w6) := HW5.out.trans (hb.mono HW5.out.size)
  clear hb
  go_wp2
  go_ret
  exact ⟨rfl, HW6.out⟩
set_option maxHeartbeats 16000000 in
set_option maxRecDepth 100000 in
theorem asks_low_in (l : List Nat) (line : Int) (p : Nat) {vs : List Nat} (hv : V l vs) (h500 : ((l.length : Nat) : Int) ≤ 500) (hk : line < 0) (hp : p ≤ vs.length) (w : World) :
    Calls Try.prog 3 #[.string (bstr l), .int .i64 (p : Int), .int .i64 line] w fun e w' => e = .returned (.bool true) ∧ Below w.heap.size w w' := by
  have GA := Lib.hid (fun w => gridAwake_any w)
  have HW0 := Lib.hid (Below.refl w.heap.size w)
  have HSZ := bstr_size l
  have hl : l.length ≤ 1099511627776 := by omega
  have GL := Lib.hid (fun w => kLines hv hl w)
  have GW := Lib.hid (fun w => width_in hv hl line w)
  rw [wOut_no (by omega), wErr_no (by omega)] at GW
  have GAT := Lib.hid (fun w => at_yes hv hl hp w)
  have GV := Lib.hid (fun w => refValid_any l hv.lt hl w)
  rw [validB_yes hv] at GV
  have GR := Lib.hid (fun w => kRefLines hv hl w)
  have GC := Lib.hid (fun w => refCount_yes hv hl w)
  have e0 : ((lst vs + 1 : Nat) : Int) = (lst vs : Int) + 1 := by omega
  have e1 : (0 : Int) ≤ (lst vs : Int) := by omega
  have e2 : (0 : Int) ≤ (vs.length : Int) := by omega
  have hpi : (p : Int) ≤ (vs.length : Int) := by omega
  have hvl := hv.length_le
  have HF1 := Lib.hid (FV.ofInt (n := (col vs p : Int)) (by have := col_le vs p; omega))
  have HF2 := Lib.hid (FV.ofInt (n := (lin vs p : Int)) (by have := lin_le vs p; omega))
  have GRA := Lib.hid (fun w => refAt_yes hv hl hp w)
  clear hvl
  clear hl hv
  generalize (vs.length : Int) = nn at *
  go_enter Try.func3, Try.ntmps3
  go_wp2_with fail
  refine (GL.out _).mono ?_
  rintro e v ⟨rfl, rfl⟩
  go_wp2_with fail
  refine (GW.out _).mono ?_
  rintro e w1 ⟨rfl, hb⟩
  have HW1 : Hid (Below w.heap.size w w1) := HW0.out.trans (hb.mono HW0.out.size)
  clear hb
  go_wp2_with fail
  refine (GAT.out _).mono ?_
  rintro e w2 ⟨⟨a, b, rfl, hp⟩, hb⟩
  have HW2 : Hid (Below w.heap.size w w2) := HW1.out.trans (hb.mono HW1.out.size)
  have R1 := ceq_fv hp.1 hp.2 HF1.out HF2.out (r := true) (by simp)
  clear hp
  clear hb
  go_wp2_with fail
  refine (GV.out _).mono ?_
  rintro e w3 ⟨rfl, hb⟩
  have HW3 : Hid (Below w.heap.size w w3) := HW2.out.trans (hb.mono HW2.out.size)
  clear hb
  go_wp2_with fail
  refine (GR.out _).mono ?_
  rintro e w4 ⟨⟨b1, o1, c1, b2, o2, c2, rfl, _, hd⟩, hb⟩
  have HW4 : Hid (Below w.heap.size w w4) := HW3.out.trans (hb.mono HW3.out.size)
  clear hd
  clear hb
  go_wp2_with fail
  refine (GC.out _).mono ?_
  rintro e w5 ⟨rfl, hb⟩
  have HW5 : Hid (Below w.heap.size w w5) := HW4.out.trans (hb.mono HW4.out.size)
  clear hb
  go_wp2_with fail
  refine (GRA.out _).mono ?_
  rintro e w6 ⟨rfl, hb⟩
  have HW6 : Hid (Below w.heap.size w w6) := HW5.out.trans (hb.mono HW5.out.size)
  clear hb
  go_wp2_with fail
  refine (GA.out _).mono ?_
  rintro e w7 ⟨rfl, hb⟩
  have HW7 : Hid (Below w.heap.size w w7) := HW6.out.trans (hb.mono HW6.out.size)
  clear hb
  go_wp2
  go_ret
  exact ⟨rfl, HW7.out⟩
set_option maxHeartbeats 16000000 in
set_option maxRecDepth 100000 in
theorem asks_high_low (l : List Nat) (line : Int) (place : Int) {vs : List Nat} (hv : V l vs) (h500 : ((l.length : Nat) : Int) ≤ 500) (hk : (lst vs : Int) < line) (hp : place < 0) (w : World) :
    Calls Try.prog 3 #[.string (bstr l), .int .i64 place, .int .i64 line] w fun e w' => e = .returned (.bool true) ∧ Below w.heap.size w w' := by
  have GA := Lib.hid (fun w => gridAwake_any w)
  have HW0 := Lib.hid (Below.refl w.heap.size w)
  have HSZ := bstr_size l
  have hl : l.length ≤ 1099511627776 := by omega
  have GL := Lib.hid (fun w => kLines hv hl w)
  have GW := Lib.hid (fun w => width_in hv hl line w)
  rw [wOut_no (by omega), wErr_no (by omega)] at GW
  have GAT := Lib.hid (fun w => at_no hv hl (place := place) (by omega) w)
  have GV := Lib.hid (fun w => refValid_any l hv.lt hl w)
  rw [validB_yes hv] at GV
  have GR := Lib.hid (fun w => kRefLines hv hl w)
  have GC := Lib.hid (fun w => refCount_yes hv hl w)
  have e0 : ((lst vs + 1 : Nat) : Int) = (lst vs : Int) + 1 := by omega
  have e1 : (0 : Int) ≤ (lst vs : Int) := by omega
  have e2 : (0 : Int) ≤ (vs.length : Int) := by omega
  have R1 := ceq_fv FV.c0 FV.c0 FV.c0 FV.c0 (r := true) (by simp)
  clear hl hv
  go_enter Try.func3, Try.ntmps3
  go_wp2_with fail
  refine (GL.out _).mono ?_
  rintro e v ⟨rfl, rfl⟩
  go_wp2_with fail
  refine (GW.out _).mono ?_
  rintro e w1 ⟨rfl, hb⟩
  have HW1 : Hid (Below w.heap.size w w1) := HW0.out.trans (hb.mono HW0.out.size)
  clear hb
  go_wp2_with fail
  refine (GAT.out _).mono ?_
  rintro e w2 ⟨rfl, hb⟩
  have HW2 : Hid (Below w.heap.size w w2) := HW1.out.trans (hb.mono HW1.out.size)
  clear hb
  go_wp2_with fail
  refine (GV.out _).mono ?_
  rintro e w3 ⟨rfl, hb⟩
  have HW3 : Hid (Below w.heap.size w w3) := HW2.out.trans (hb.mono HW2.out.size)
  clear hb
  go_wp2_with fail
  refine (GR.out _).mono ?_
  rintro e w4 ⟨⟨b1, o1, c1, b2, o2, c2, rfl, _, hd⟩, hb⟩
  have HW4 : Hid (Below w.heap.size w w4) := HW3.out.trans (hb.mono HW3.out.size)
  clear hd
  clear hb
  go_wp2_with fail
  refine (GA.out _).mono ?_
  rintro e w5 ⟨rfl, hb⟩
  have HW5 : Hid (Below w.heap.size w w5) := HW4.out.trans (hb.mono HW4.out.size)
  clear hb
  go_wp2
  go_ret
  exact ⟨rfl, HW5.out⟩
set_option maxHeartbeats 16000000 in
set_option maxRecDepth 100000 in
theorem asks_high_high (l : List Nat) (line : Int) (place : Int) {vs : List Nat} (hv : V l vs) (h500 : ((l.length : Nat) : Int) ≤ 500) (hk : (lst vs : Int) < line) (hp : (vs.length : Int) < place) (w : World) :
    Calls Try.prog 3 #[.string (bstr l), .int .i64 place, .int .i64 line] w fun e w' => e = .returned (.bool true) ∧ Below w.heap.size w w' := by
  have GA := Lib.hid (fun w => gridAwake_any w)
  have HW0 := Lib.hid (Below.refl w.heap.size w)
  have HSZ := bstr_size l
  have hl : l.length ≤ 1099511627776 := by omega
  have GL := Lib.hid (fun w => kLines hv hl w)
  have GW := Lib.hid (fun w => width_in hv hl line w)
  rw [wOut_no (by omega), wErr_no (by omega)] at GW
  have GAT := Lib.hid (fun w => at_no hv hl (place := place) (by omega) w)
  have GV := Lib.hid (fun w => refValid_any l hv.lt hl w)
  rw [validB_yes hv] at GV
  have GR := Lib.hid (fun w => kRefLines hv hl w)
  have GC := Lib.hid (fun w => refCount_yes hv hl w)
  have e0 : ((lst vs + 1 : Nat) : Int) = (lst vs : Int) + 1 := by omega
  have e1 : (0 : Int) ≤ (lst vs : Int) := by omega
  have e2 : (0 : Int) ≤ (vs.length : Int) := by omega
  have R1 := ceq_fv FV.c0 FV.c0 FV.c0 FV.c0 (r := true) (by simp)
  clear hl hv
  go_enter Try.func3, Try.ntmps3
  go_wp2_with fail
  refine (GL.out _).mono ?_
  rintro e v ⟨rfl, rfl⟩
  go_wp2_with fail
  refine (GW.out _).mono ?_
  rintro e w1 ⟨rfl, hb⟩
  have HW1 : Hid (Below w.heap.size w w1) := HW0.out.trans (hb.mono HW0.out.size)
  clear hb
  go_wp2_with fail
  refine (GAT.out _).mono ?_
  rintro e w2 ⟨rfl, hb⟩
  have HW2 : Hid (Below w.heap.size w w2) := HW1.out.trans (hb.mono HW1.out.size)
  clear hb
  go_wp2_with fail
  refine (GV.out _).mono ?_
  rintro e w3 ⟨rfl, hb⟩
  have HW3 : Hid (Below w.heap.size w w3) := HW2.out.trans (hb.mono HW2.out.size)
  clear hb
  go_wp2_with fail
  refine (GR.out _).mono ?_
  rintro e w4 ⟨⟨b1, o1, c1, b2, o2, c2, rfl, _, hd⟩, hb⟩
  have HW4 : Hid (Below w.heap.size w w4) := HW3.out.trans (hb.mono HW3.out.size)
  clear hd
  clear hb
  go_wp2_with fail
  refine (GC.out _).mono ?_
  rintro e w5 ⟨rfl, hb⟩
  have HW5 : Hid (Below w.heap.size w w5) := HW4.out.trans (hb.mono HW4.out.size)
  clear hb
  go_wp2_with fail
  refine (GA.out _).mono ?_
  rintro e w6 ⟨rfl, hb⟩
  have HW6 : Hid (Below w.heap.size w w6) := HW5.out.trans (hb.mono HW5.out.size)
  clear hb
  go_wp2
  go_ret
  exact ⟨rfl, HW6.out⟩
set_option maxHeartbeats 16000000 in
set_option maxRecDepth 100000 in
theorem asks_high_in (l : List Nat) (line : Int) (p : Nat) {vs : List Nat} (hv : V l vs) (h500 : ((l.length : Nat) : Int) ≤ 500) (hk : (lst vs : Int) < line) (hp : p ≤ vs.length) (w : World) :
    Calls Try.prog 3 #[.string (bstr l), .int .i64 (p : Int), .int .i64 line] w fun e w' => e = .returned (.bool true) ∧ Below w.heap.size w w' := by
  have GA := Lib.hid (fun w => gridAwake_any w)
  have HW0 := Lib.hid (Below.refl w.heap.size w)
  have HSZ := bstr_size l
  have hl : l.length ≤ 1099511627776 := by omega
  have GL := Lib.hid (fun w => kLines hv hl w)
  have GW := Lib.hid (fun w => width_in hv hl line w)
  rw [wOut_no (by omega), wErr_no (by omega)] at GW
  have GAT := Lib.hid (fun w => at_yes hv hl hp w)
  have GV := Lib.hid (fun w => refValid_any l hv.lt hl w)
  rw [validB_yes hv] at GV
  have GR := Lib.hid (fun w => kRefLines hv hl w)
  have GC := Lib.hid (fun w => refCount_yes hv hl w)
  have e0 : ((lst vs + 1 : Nat) : Int) = (lst vs : Int) + 1 := by omega
  have e1 : (0 : Int) ≤ (lst vs : Int) := by omega
  have e2 : (0 : Int) ≤ (vs.length : Int) := by omega
  have hpi : (p : Int) ≤ (vs.length : Int) := by omega
  have hvl := hv.length_le
  have HF1 := Lib.hid (FV.ofInt (n := (col vs p : Int)) (by have := col_le vs p; omega))
  have HF2 := Lib.hid (FV.ofInt (n := (lin vs p : Int)) (by have := lin_le vs p; omega))
  have GRA := Lib.hid (fun w => refAt_yes hv hl hp w)
  clear hvl
  clear hl hv
  generalize (vs.length : Int) = nn at *
  go_enter Try.func3, Try.ntmps3
  go_wp2_with fail
  refine (GL.out _).mono ?_
  rintro e v ⟨rfl, rfl⟩
  go_wp2_with fail
  refine (GW.out _).mono ?_
  rintro e w1 ⟨rfl, hb⟩
  have HW1 : Hid (Below w.heap.size w w1) := HW0.out.trans (hb.mono HW0.out.size)
  clear hb
  go_wp2_with fail
  refine (GAT.out _).mono ?_
  rintro e w2 ⟨⟨a, b, rfl, hp⟩, hb⟩
  have HW2 : Hid (Below w.heap.size w w2) := HW1.out.trans (hb.mono HW1.out.size)
  have R1 := ceq_fv hp.1 hp.2 HF1.out HF2.out (r := true) (by simp)
  clear hp
  clear hb
  go_wp2_with fail
  refine (GV.out _).mono ?_
  rintro e w3 ⟨rfl, hb⟩
  have HW3 : Hid (Below w.heap.size w w3) := HW2.out.trans (hb.mono HW2.out.size)
  clear hb
  go_wp2_with fail
  refine (GR.out _).mono ?_
  rintro e w4 ⟨⟨b1, o1, c1, b2, o2, c2, rfl, _, hd⟩, hb⟩
  have HW4 : Hid (Below w.heap.size w w4) := HW3.out.trans (hb.mono HW3.out.size)
  clear hd
  clear hb
  go_wp2_with fail
  refine (GC.out _).mono ?_
  rintro e w5 ⟨rfl, hb⟩
  have HW5 : Hid (Below w.heap.size w w5) := HW4.out.trans (hb.mono HW4.out.size)
  clear hb
  go_wp2_with fail
  refine (GRA.out _).mono ?_
  rintro e w6 ⟨rfl, hb⟩
  have HW6 : Hid (Below w.heap.size w w6) := HW5.out.trans (hb.mono HW5.out.size)
  clear hb
  go_wp2_with fail
  refine (GA.out _).mono ?_
  rintro e w7 ⟨rfl, hb⟩
  have HW7 : Hid (Below w.heap.size w w7) := HW6.out.trans (hb.mono HW6.out.size)
  clear hb
  go_wp2
  go_ret
  exact ⟨rfl, HW7.out⟩
set_option maxHeartbeats 16000000 in
set_option maxRecDepth 100000 in
theorem asks_in_low (l : List Nat) (k : Nat) (place : Int) {vs : List Nat} (hv : V l vs) (h500 : ((l.length : Nat) : Int) ≤ 500) (hk : k ≤ lst vs) (hp : place < 0) (w : World) :
    Calls Try.prog 3 #[.string (bstr l), .int .i64 place, .int .i64 (k : Int)] w fun e w' => e = .returned (.bool true) ∧ Below w.heap.size w w' := by
  have GA := Lib.hid (fun w => gridAwake_any w)
  have HW0 := Lib.hid (Below.refl w.heap.size w)
  have HSZ := bstr_size l
  have hl : l.length ≤ 1099511627776 := by omega
  have GL := Lib.hid (fun w => kLines hv hl w)
  have GW := Lib.hid (fun w => width_in hv hl (k : Int) w)
  rw [wOut_yes hk, wErr_yes hk] at GW
  have HWG := Lib.hid (wide_get vs hk)
  have hki : (k : Int) < (lst vs : Int) + 1 := by omega
  have hkl : k < lst vs + 1 := by omega
  have GAT := Lib.hid (fun w => at_no hv hl (place := place) (by omega) w)
  have GV := Lib.hid (fun w => refValid_any l hv.lt hl w)
  rw [validB_yes hv] at GV
  have GR := Lib.hid (fun w => kRefLines hv hl w)
  have GC := Lib.hid (fun w => refCount_yes hv hl w)
  have e0 : ((lst vs + 1 : Nat) : Int) = (lst vs : Int) + 1 := by omega
  have e1 : (0 : Int) ≤ (lst vs : Int) := by omega
  have e2 : (0 : Int) ≤ (vs.length : Int) := by omega
  have R1 := ceq_fv FV.c0 FV.c0 FV.c0 FV.c0 (r := true) (by simp)
  clear hl hv
  go_enter Try.func3, Try.ntmps3
  go_wp2_with fail
  refine (GL.out _).mono ?_
  rintro e v ⟨rfl, rfl⟩
  go_wp2_with fail
  refine (GW.out _).mono ?_
  rintro e w1 ⟨rfl, hb⟩
  have HW1 : Hid (Below w.heap.size w w1) := HW0.out.trans (hb.mono HW0.out.size)
  clear hb
  go_wp2_with fail
  refine (GAT.out _).mono ?_
  rintro e w2 ⟨rfl, hb⟩
  have HW2 : Hid (Below w.heap.size w w2) := HW1.out.trans (hb.mono HW1.out.size)
  clear hb
  go_wp2_with fail
  refine (GV.out _).mono ?_
  rintro e w3 ⟨rfl, hb⟩
  have HW3 : Hid (Below w.heap.size w w3) := HW2.out.trans (hb.mono HW2.out.size)
  clear hb
  go_wp2_with fail
  refine (GR.out _).mono ?_
  rintro e w4 ⟨⟨b1, o1, c1, b2, o2, c2, rfl, _, hd⟩, hb⟩
  have HW4 : Hid (Below w.heap.size w w4) := HW3.out.trans (hb.mono HW3.out.size)
  have hcell := hd.nat HWG.out
  clear hd
  clear hb
  go_wp2_with fail
  refine (GA.out _).mono ?_
  rintro e w5 ⟨rfl, hb⟩
  have HW5 : Hid (Below w.heap.size w w5) := HW4.out.trans (hb.mono HW4.out.size)
  clear hb
  go_wp2
  go_ret
  exact ⟨rfl, HW5.out⟩
set_option maxHeartbeats 16000000 in
set_option maxRecDepth 100000 in
theorem asks_in_high (l : List Nat) (k : Nat) (place : Int) {vs : List Nat} (hv : V l vs) (h500 : ((l.length : Nat) : Int) ≤ 500) (hk : k ≤ lst vs) (hp : (vs.length : Int) < place) (w : World) :
    Calls Try.prog 3 #[.string (bstr l), .int .i64 place, .int .i64 (k : Int)] w fun e w' => e = .returned (.bool true) ∧ Below w.heap.size w w' := by
  have GA := Lib.hid (fun w => gridAwake_any w)
  have HW0 := Lib.hid (Below.refl w.heap.size w)
  have HSZ := bstr_size l
  have hl : l.length ≤ 1099511627776 := by omega
  have GL := Lib.hid (fun w => kLines hv hl w)
  have GW := Lib.hid (fun w => width_in hv hl (k : Int) w)
  rw [wOut_yes hk, wErr_yes hk] at GW
  have HWG := Lib.hid (wide_get vs hk)
  have hki : (k : Int) < (lst vs : Int) + 1 := by omega
  have hkl : k < lst vs + 1 := by omega
  have GAT := Lib.hid (fun w => at_no hv hl (place := place) (by omega) w)
  have GV := Lib.hid (fun w => refValid_any l hv.lt hl w)
  rw [validB_yes hv] at GV
  have GR := Lib.hid (fun w => kRefLines hv hl w)
  have GC := Lib.hid (fun w => refCount_yes hv hl w)
  have e0 : ((lst vs + 1 : Nat) : Int) = (lst vs : Int) + 1 := by omega
  have e1 : (0 : Int) ≤ (lst vs : Int) := by omega
  have e2 : (0 : Int) ≤ (vs.length : Int) := by omega
  have R1 := ceq_fv FV.c0 FV.c0 FV.c0 FV.c0 (r := true) (by simp)
  clear hl hv
  go_enter Try.func3, Try.ntmps3
  go_wp2_with fail
  refine (GL.out _).mono ?_
  rintro e v ⟨rfl, rfl⟩
  go_wp2_with fail
  refine (GW.out _).mono ?_
  rintro e w1 ⟨rfl, hb⟩
  have HW1 : Hid (Below w.heap.size w w1) := HW0.out.trans (hb.mono HW0.out.size)
  clear hb
  go_wp2_with fail
  refine (GAT.out _).mono ?_
  rintro e w2 ⟨rfl, hb⟩
  have HW2 : Hid (Below w.heap.size w w2) := HW1.out.trans (hb.mono HW1.out.size)
  clear hb
  go_wp2_with fail
  refine (GV.out _).mono ?_
  rintro e w3 ⟨rfl, hb⟩
  have HW3 : Hid (Below w.heap.size w w3) := HW2.out.trans (hb.mono HW2.out.size)
  clear hb
  go_wp2_with fail
  refine (GR.out _).mono ?_
  rintro e w4 ⟨⟨b1, o1, c1, b2, o2, c2, rfl, _, hd⟩, hb⟩
  have HW4 : Hid (Below w.heap.size w w4) := HW3.out.trans (hb.mono HW3.out.size)
  have hcell := hd.nat HWG.out
  clear hd
  clear hb
  go_wp2_with fail
  refine (GC.out _).mono ?_
  rintro e w5 ⟨rfl, hb⟩
  have HW5 : Hid (Below w.heap.size w w5) := HW4.out.trans (hb.mono HW4.out.size)
  clear hb
  go_wp2_with fail
  refine (GA.out _).mono ?_
  rintro e w6 ⟨rfl, hb⟩
  have HW6 : Hid (Below w.heap.size w w6) := HW5.out.trans (hb.mono HW5.out.size)
  clear hb
  go_wp2
  go_ret
  exact ⟨rfl, HW6.out⟩
set_option maxHeartbeats 16000000 in
set_option maxRecDepth 100000 in
theorem asks_in_in (l : List Nat) (k : Nat) (p : Nat) {vs : List Nat} (hv : V l vs) (h500 : ((l.length : Nat) : Int) ≤ 500) (hk : k ≤ lst vs) (hp : p ≤ vs.length) (w : World) :
    Calls Try.prog 3 #[.string (bstr l), .int .i64 (p : Int), .int .i64 (k : Int)] w fun e w' => e = .returned (.bool true) ∧ Below w.heap.size w w' := by
  have GA := Lib.hid (fun w => gridAwake_any w)
  have HW0 := Lib.hid (Below.refl w.heap.size w)
  have HSZ := bstr_size l
  have hl : l.length ≤ 1099511627776 := by omega
  have GL := Lib.hid (fun w => kLines hv hl w)
  have GW := Lib.hid (fun w => width_in hv hl (k : Int) w)
  rw [wOut_yes hk, wErr_yes hk] at GW
  have HWG := Lib.hid (wide_get vs hk)
  have hki : (k : Int) < (lst vs : Int) + 1 := by omega
  have hkl : k < lst vs + 1 := by omega
  have GAT := Lib.hid (fun w => at_yes hv hl hp w)
  have GV := Lib.hid (fun w => refValid_any l hv.lt hl w)
  rw [validB_yes hv] at GV
  have GR := Lib.hid (fun w => kRefLines hv hl w)
  have GC := Lib.hid (fun w => refCount_yes hv hl w)
  have e0 : ((lst vs + 1 : Nat) : Int) = (lst vs : Int) + 1 := by omega
  have e1 : (0 : Int) ≤ (lst vs : Int) := by omega
  have e2 : (0 : Int) ≤ (vs.length : Int) := by omega
  have hpi : (p : Int) ≤ (vs.length : Int) := by omega
  have hvl := hv.length_le
  have HF1 := Lib.hid (FV.ofInt (n := (col vs p : Int)) (by have := col_le vs p; omega))
  have HF2 := Lib.hid (FV.ofInt (n := (lin vs p : Int)) (by have := lin_le vs p; omega))
  have GRA := Lib.hid (fun w => refAt_yes hv hl hp w)
  clear hvl
  clear hl hv
  generalize (vs.length : Int) = nn at *
  go_enter Try.func3, Try.ntmps3
  go_wp2_with fail
  refine (GL.out _).mono ?_
  rintro e v ⟨rfl, rfl⟩
  go_wp2_with fail
  refine (GW.out _).mono ?_
  rintro e w1 ⟨rfl, hb⟩
  have HW1 : Hid (Below w.heap.size w w1) := HW0.out.trans (hb.mono HW0.out.size)
  clear hb
  go_wp2_with fail
  refine (GAT.out _).mono ?_
  rintro e w2 ⟨⟨a, b, rfl, hp⟩, hb⟩
  have HW2 : Hid (Below w.heap.size w w2) := HW1.out.trans (hb.mono HW1.out.size)
  have R1 := ceq_fv hp.1 hp.2 HF1.out HF2.out (r := true) (by simp)
  clear hp
  clear hb
  go_wp2_with fail
  refine (GV.out _).mono ?_
  rintro e w3 ⟨rfl, hb⟩
  have HW3 : Hid (Below w.heap.size w w3) := HW2.out.trans (hb.mono HW2.out.size)
  clear hb
  go_wp2_with fail
  refine (GR.out _).mono ?_
  rintro e w4 ⟨⟨b1, o1, c1, b2, o2, c2, rfl, _, hd⟩, hb⟩
  have HW4 : Hid (Below w.heap.size w w4) := HW3.out.trans (hb.mono HW3.out.size)
  have hcell := hd.nat HWG.out
  clear hd
  clear hb
  go_wp2_with fail
  refine (GC.out _).mono ?_
  rintro e w5 ⟨rfl, hb⟩
  have HW5 : Hid (Below w.heap.size w w5) := HW4.out.trans (hb.mono HW4.out.size)
  clear hb
  go_wp2_with fail
  refine (GRA.out _).mono ?_
  rintro e w6 ⟨rfl, hb⟩
  have HW6 : Hid (Below w.heap.size w w6) := HW5.out.trans (hb.mono HW5.out.size)
  clear hb
  go_wp2_with fail
  refine (GA.out _).mono ?_
  rintro e w7 ⟨rfl, hb⟩
  have HW7 : Hid (Below w.heap.size w w7) := HW6.out.trans (hb.mono HW6.out.size)
  clear hb
  go_wp2
  go_ret
  exact ⟨rfl, HW7.out⟩
set_option maxHeartbeats 16000000 in
set_option maxRecDepth 100000 in
theorem gridAsks_any (l : List Nat) (place line : Int) (hb : ∀ x ∈ l, x < 256) (hm : l.length ≤ maxLen) (_hp : Fit64 place) (_hk : Fit64 line) (w : World) :
    Calls Try.prog 3 #[.string (bstr l), .int .i64 place, .int .i64 line] w fun e w' => e = .returned (.bool true) ∧ Below w.heap.size w w' := by
  clear _hp _hk
  unfold maxLen at hm
  by_cases g1 : 500 < l.length
  · have GA := Lib.hid (fun w => gridAwake_any w)
    have HW0 := Lib.hid (Below.refl w.heap.size w)
    have HSZ := bstr_size l
    clear hb
    go_enter Try.func3, Try.ntmps3
    go_wp2_with fail
    refine (GA.out _).mono ?_
    rintro e w1 ⟨rfl, hb⟩
    have HW1 : Hid (Below w.heap.size w w1) := HW0.out.trans (hb.mono HW0.out.size)
    clear hb
    go_wp2
    go_ret
    exact ⟨rfl, HW1.out⟩
  have h500 : ((l.length : Nat) : Int) ≤ 500 := by omega
  by_cases hv : ∃ vs, V l vs
  · obtain ⟨vs, hv⟩ := hv
    rcases (show line < 0 ∨ (lst vs : Int) < line ∨ (0 ≤ line ∧ line ≤ lst vs) by omega) with hk | hk | hk
    · rcases (show place < 0 ∨ (vs.length : Int) < place ∨ (0 ≤ place ∧ place ≤ vs.length) by omega) with hp | hp | hp
      · exact asks_low_low l line place hv h500 hk hp w
      · exact asks_low_high l line place hv h500 hk hp w
      · obtain ⟨p, rfl⟩ : ∃ p : Nat, place = (p : Int) := ⟨place.toNat, by omega⟩
        exact asks_low_in l line p hv h500 hk (by omega) w
    · rcases (show place < 0 ∨ (vs.length : Int) < place ∨ (0 ≤ place ∧ place ≤ vs.length) by omega) with hp | hp | hp
      · exact asks_high_low l line place hv h500 hk hp w
      · exact asks_high_high l line place hv h500 hk hp w
      · obtain ⟨p, rfl⟩ : ∃ p : Nat, place = (p : Int) := ⟨place.toNat, by omega⟩
        exact asks_high_in l line p hv h500 hk (by omega) w
    · obtain ⟨k, rfl⟩ : ∃ k : Nat, line = (k : Int) := ⟨line.toNat, by omega⟩
      rcases (show place < 0 ∨ (vs.length : Int) < place ∨ (0 ≤ place ∧ place ≤ vs.length) by omega) with hp | hp | hp
      · exact asks_in_low l k place hv h500 (by omega) hp w
      · exact asks_in_high l k place hv h500 (by omega) hp w
      · obtain ⟨p, rfl⟩ : ∃ p : Nat, place = (p : Int) := ⟨place.toNat, by omega⟩
        exact asks_in_in l k p hv h500 (by omega) (by omega) w
  · exact asks_bad l place line hv hb h500 w
end Go.Proofs.Ytgenphpaidanhaa
