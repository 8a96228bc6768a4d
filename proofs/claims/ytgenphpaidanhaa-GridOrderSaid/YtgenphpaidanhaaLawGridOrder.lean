/- GridOrder, walked: places that rise have points that rise, line by line, column by column; a step right within a line is one place. Condition: what memory may hold. -/
import Derived.Test.YtgenphpaidanhaaGridKit
namespace Go.Proofs.Ytgenphpaidanhaa
open Go.RowKit Go.Deep Ieee
attribute [-go_sem] binOp_float_cmp_eql binOp_float_cmp_neq binOp_float_cmp_lss binOp_float_cmp_leq binOp_float_cmp_gtr binOp_float_cmp_geq run_eql_complex run_neq_complex
attribute [local irreducible] floatOfInt

theorem feq_fv {a b : Nat} {x y : Int} (ha : FV a x) (hb : FV b y) {r : Bool} (hr : decide (x = y) = r) (t : TypeId) (w : World) : (binOp .eql t (.float .f64 a) (.float .f64 b)).run Try.prog w = .ok (.bool r) w := by
  refine fEql (ha.order hb) (v := r) ?_ t w
  rw [← hr]
  rcases Int.lt_trichotomy x y with h | h | h
  · rw [cmp_lt h, decide_eq_false (by omega)]; rfl
  · rw [cmp_eq h, decide_eq_true h]; rfl
  · rw [cmp_gt h, decide_eq_false (by omega)]; rfl
theorem fadd_fv {a b : Nat} {x y : Int} (ha : FV a x) (hb : FV b y) (h : (x + y).natAbs < 9007199254740992) : ∃ r, (∀ t w, (binOp .add t (.float .f64 a) (.float .f64 b)).run Try.prog w = .ok (.float .f64 r) w) ∧ FV r (x + y) := by
  obtain ⟨r, e, f⟩ := ha.add hb h
  exact ⟨r, fun t w => run_float_arith w .add t .f64 _ _ r e, f⟩

set_option maxHeartbeats 16000000 in
set_option maxRecDepth 100000 in
theorem gridOrder_any (l : List Nat) (hb : ∀ x ∈ l, x < 256) (hm : l.length ≤ maxLen) (w : World) :
    Calls Try.prog 7 #[.string (bstr l)] w fun e w' => e = .returned (.bool true) ∧ Below w.heap.size w w' := by
  have GA := Lib.hid (fun w => gridAwake_any w)
  have HW0 := Lib.hid (Below.refl w.heap.size w)
  have HSZ := bstr_size l
  unfold maxLen at hm
  by_cases g1 : 120 < l.length
  · clear hb
    go_enter Try.func7, Try.ntmps7
    go_wp2_with fail
    refine (GA.out _).mono ?_
    rintro e w1 ⟨rfl, hb⟩
    have HW1 := Lib.hid (HW0.out.trans (hb.mono HW0.out.size))
    clear hb
    go_wp2
    go_ret
    exact ⟨rfl, HW1.out⟩
  have h120 : ((l.length : Nat) : Int) ≤ 120 := by omega
  have hl : l.length ≤ 1099511627776 := by omega
  clear g1 hm
  have GV := Lib.hid (fun w => refValid_any l hb hl w)
  by_cases hv : ∃ vs, V l vs
  · obtain ⟨vs, hv⟩ := hv
    rw [validB_yes hv] at GV
    have GC := Lib.hid (fun w => refCount_yes hv hl w)
    have hvl := hv.length_le
    have HV := Lib.hid hv
    have GA0 := Lib.hid (fun w => at_yes hv hl (Nat.zero_le _) w)
    rw [col_zero, lin_zero] at GA0
    have GAT := Lib.hid (fun p h w => at_yes (p := p) hv hl h w)
    have GW := Lib.hid (fun k w => width_in hv hl ((k : Nat) : Int) w)
    clear hb hv
    go_enter Try.func7, Try.ntmps7
    go_wp2_with fail
    refine (GV.out _).mono ?_
    rintro e w1 ⟨rfl, hb⟩
    have HW1 := Lib.hid (HW0.out.trans (hb.mono HW0.out.size))
    clear hb
    go_wp2_with fail
    refine (GC.out _).mono ?_
    rintro e w2 ⟨rfl, hb⟩
    have HW2 := Lib.hid (HW1.out.trans (hb.mono HW1.out.size))
    clear hb
    go_wp2_with fail
    refine (GA0.out _).mono ?_
    rintro e w3 ⟨⟨a, b, rfl, hp⟩, hb⟩
    have HW3 := Lib.hid (HW2.out.trans (hb.mono HW2.out.size))
    have R0 := cne_fv hp.1 hp.2 FV.c0 FV.c0 (r := false) (by simp)
    have HP := Lib.hid hp
    clear hb hp
    go_wp2
    go_loopw [2, 4, 6] (fun r c p wr => ∃ (q a b : Nat), q ≤ vs.length ∧ r = .bool false ∧ c = .complex .f64 a b ∧ p = .int .i64 ((q : Int) + 1) ∧ Hid (PtV a b (col vs q : Int) (lin vs q : Int)) ∧ Hid (Below w.heap.size w wr)) (fun _ _ p _ => vs.length + 1 - (intOf p).toNat)
    case atStart => exact ⟨0, a, b, Nat.zero_le _, rfl, rfl, rfl, by rw [col_zero, lin_zero]; exact HP, HW3⟩
    case round =>
      obtain ⟨q, a, b, hq, rfl, rfl, rfl, HP, HWR⟩ := hrel
      by_cases hlt : q < vs.length
      · have hlti : (q : Int) + 1 ≤ (vs.length : Int) := by omega
        have HQP : Hid (q + 1 ≤ vs.length) := by show _ ≤ _; omega
        have GATP := Lib.hid (fun w => GAT.out (q + 1) HQP.out w)
        rw [show ((q + 1 : Nat) : Int) = (q : Int) + 1 by omega] at GATP
        have hcl := col_le vs q
        have hll := lin_le vs q
        have hlst := lin_lst vs hq
        have GWQ := Lib.hid (fun w => GW.out (lin vs q) w)
        rw [wOut_yes hlst, wErr_yes hlst] at GWQ
        have hcv := rToInt HP.out.2 (by omega)
        have hcr := rToInt HP.out.1 (by omega)
        have GST := fun {C : Int} hC w => step_yes HV.out hl hq HP.out (da := 4607182418800017408) (db := 0) (a := 1) (b := 0) ⟨FV.c1, FV.c0⟩ (by omega) (by omega) (by omega) (by omega) (L := lin vs q) (by omega) (C := C) hC w
        obtain ⟨s1, A1, F1⟩ := fadd_fv HP.out.1 FV.c1 (by omega)
        obtain ⟨s2, A2, F2⟩ := fadd_fv HP.out.2 FV.c1 (by omega)
        by_cases h10 : vs[q]? = some 10
        · have hw := at_end vs h10
          rw [← hw] at GWQ
          have GS := Lib.hid (fun w => GST (C := (col vs q : Int)) (by rw [← hw]; omega) w)
          have hc2 := col_yes h10
          have hl2 := lin_yes h10
          rw [hc2, hl2] at GATP
          clear GST
          have HN : Hid (col vs (q + 1) = 0 ∧ lin vs (q + 1) = lin vs q + 1) := ⟨hc2, hl2⟩
          clear hc2 hl2 hw
          go_wp2_with fail
          refine (GATP.out _).mono ?_
          rintro e w1 ⟨⟨a2, b2, rfl, hp2⟩, hb⟩
          have HW1 := Lib.hid (HWR.out.trans (hb.mono HWR.out.size))
          have B1 := feq_fv hp2.2 HP.out.2 (r := false) (decide_eq_false (by omega))
          have B2 := feq_fv hp2.2 F2 (r := true) (decide_eq_true (by omega))
          have B3 := feq_fv hp2.1 FV.c0 (r := true) (decide_eq_true (by omega))
          have B4 := fne_fv hp2.2 HP.out.2 (r := true) (decide_eq_true (by omega))
          have HP2 : Hid (PtV a2 b2 (col vs (q + 1) : Int) (lin vs (q + 1) : Int)) := by
            show PtV _ _ _ _
            rw [HN.out.1, HN.out.2]
            exact hp2
          clear hb hp2
          go_wp2_with fail
          refine (GWQ.out _).mono ?_
          rintro e w2 ⟨rfl, hb⟩
          have HW2 := Lib.hid (HW1.out.trans (hb.mono HW1.out.size))
          clear hb
          go_wp2_with fail
          refine (GS.out _).mono ?_
          rintro e w3 ⟨⟨a3, b3, rfl, hp3⟩, hb⟩
          have HW3 := Lib.hid (HW2.out.trans (hb.mono HW2.out.size))
          have B5 := cne_fv hp3.1 hp3.2 HP.out.1 HP.out.2 (r := false) (decide_eq_false (by simp))
          clear hb hp3
          go_wp2
          go_roundw
          case rel => exact ⟨q + 1, a2, b2, by omega, rfl, rfl, by go_num, HP2, HW3⟩
          case measure => simp [intOf]; omega
        · have hc2 := col_no h10
          have hl2 := lin_no h10
          have hcw := col_wdt vs HQP.out
          rw [hl2, hc2] at hcw
          have GS := Lib.hid (fun w => GST (C := (col vs q : Int) + 1) (by omega) w)
          rw [hc2, hl2] at GATP
          clear GST
          have HN : Hid (col vs (q + 1) = col vs q + 1 ∧ lin vs (q + 1) = lin vs q) := ⟨hc2, hl2⟩
          clear hc2 hl2 hcw
          go_wp2_with fail
          refine (GATP.out _).mono ?_
          rintro e w1 ⟨⟨a2, b2, rfl, hp2⟩, hb⟩
          have HW1 := Lib.hid (HWR.out.trans (hb.mono HWR.out.size))
          have B1 := feq_fv hp2.2 HP.out.2 (r := true) (decide_eq_true rfl)
          have B2 := feq_fv hp2.1 F1 (r := true) (decide_eq_true (by omega))
          have B4 := fne_fv hp2.2 HP.out.2 (r := false) (decide_eq_false (by simp))
          have HP2 : Hid (PtV a2 b2 (col vs (q + 1) : Int) (lin vs (q + 1) : Int)) := by
            show PtV _ _ _ _
            rw [HN.out.1, HN.out.2]
            exact hp2
          have HPT := Lib.hid hp2
          clear hb hp2
          go_wp2_with fail
          refine (GWQ.out _).mono ?_
          rintro e w2 ⟨rfl, hb⟩
          have HW2 := Lib.hid (HW1.out.trans (hb.mono HW1.out.size))
          clear hb
          go_wp2_with fail
          refine (GS.out _).mono ?_
          rintro e w3 ⟨⟨a3, b3, rfl, hp3⟩, hb⟩
          have HW3 := Lib.hid (HW2.out.trans (hb.mono HW2.out.size))
          have B5 := cne_fv hp3.1 hp3.2 HPT.out.1 HPT.out.2 (r := false) (decide_eq_false (by omega))
          clear hb hp3
          go_wp2
          go_roundw
          case rel => exact ⟨q + 1, a2, b2, by omega, rfl, rfl, by go_num, HP2, HW3⟩
          case measure => simp [intOf]; omega
      · have hqe : (vs.length : Int) < (q : Int) + 1 := by omega
        go_wp2_with fail
        refine (GA.out _).mono ?_
        rintro e w4 ⟨rfl, hb⟩
        have HW4 := Lib.hid (HWR.out.trans (hb.mono HWR.out.size))
        clear hb
        go_wp2
        go_ret
        exact ⟨rfl, HW4.out⟩
  · rw [validB_no hv] at GV
    clear hb
    go_enter Try.func7, Try.ntmps7
    go_wp2_with fail
    refine (GV.out _).mono ?_
    rintro e w1 ⟨rfl, hb⟩
    have HW1 := Lib.hid (HW0.out.trans (hb.mono HW0.out.size))
    clear hb
    go_wp2_with fail
    refine (GA.out _).mono ?_
    rintro e w2 ⟨rfl, hb⟩
    have HW2 := Lib.hid (HW1.out.trans (hb.mono HW1.out.size))
    clear hb
    go_wp2
    go_ret
    exact ⟨rfl, HW2.out⟩
end Go.Proofs.Ytgenphpaidanhaa
