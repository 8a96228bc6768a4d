/- grid's Step: on from a point, held within the text. Conditions: a text of no more than 2^40 bytes; parts that are numbers of sixteenths below 2^52. -/
import Derived.Test.YtgenphpaidanhaaGridPlace
import Derived.Test.YtgenphpaidanhaaGridWidth
import Derived.Test.YtgenphpaidanhaaHeld
namespace Go.Proofs.Ytgenphpaidanhaa
open Go.RowKit Go.Deep Ieee
attribute [-go_sem] binOp_float_cmp_eql binOp_float_cmp_neq binOp_float_cmp_lss binOp_float_cmp_leq binOp_float_cmp_gtr binOp_float_cmp_geq run_eql_complex run_neq_complex

theorem FV.far : FV 4697254411347427328 16777216 := ⟨false, 4503599627370496, -32, rfl, fun h => by omega, fun _ => ⟨by omega, by omega, rfl, rfl, by omega⟩⟩
theorem FV.back : FV 13920626448202203136 (-16777216) := ⟨true, 4503599627370496, -32, rfl, fun h => by omega, fun _ => ⟨by omega, by omega, rfl, rfl, by omega⟩⟩
/-- Made whole, towards nought, of either sign. -/
theorem FV.truncAny {x : Nat} {z : Int} (hx : FV x z) (hz : z.natAbs < 9007199254740992) : FV (double.write ((double.read x).integral .zero)) (16 * z.tdiv 16) := by
  by_cases h0 : 0 ≤ z
  · have := hx.trunc h0 (by omega)
    rw [Int.tdiv_eq_ediv_of_nonneg h0]
    exact this
  · have hi := hx.toInt hz
    obtain ⟨s, m, e, r, h1, h2⟩ := hx
    have h3 := h2 (by omega)
    have hs : s = true := by rw [h3.sg]; exact decide_eq_true (by omega)
    subst hs
    rw [r]
    show FV (double.nearest true (Toward.zero.cut true (m <<< e.toNat) (-e).toNat) 0) _
    unfold floatToIntVal at hi
    rw [show FloatKind.f64.decode x = double.read x from rfl, r] at hi
    have hv : (Datum.number true m e).toInt .zero = some (signed true (Toward.zero.cut true (m <<< e.toNat) (-e).toNat) 0) := rfl
    rw [hv] at hi
    simp only at hi
    split at hi
    · have e1 := Option.some.inj hi
      unfold signed at e1
      simp only [if_true, Nat.shiftLeft_zero] at e1
      by_cases hz1 : z.tdiv 16 = 0
      · rw [hz1, show Toward.zero.cut true (m <<< e.toNat) (-e).toNat = 0 by omega]
        exact fv_zero _ _
      · have hb : (z.tdiv 16).natAbs ≤ z.natAbs := by rw [Int.natAbs_tdiv]; exact Nat.div_le_self _ _
        have e2 : z.natAbs / 16 = (z.tdiv 16).natAbs := by rw [Int.natAbs_tdiv]; rfl
        have h4 := FV.ofInt (n := z.tdiv 16) (by omega)
        have e3 : floatOfInt .f64 (z.tdiv 16) = double.nearest true (Toward.zero.cut true (m <<< e.toNat) (-e).toNat) 0 := by
          show double.nearest (decide (z.tdiv 16 < 0)) (z.tdiv 16).natAbs 0 = _
          rw [decide_eq_true (by omega), show (z.tdiv 16).natAbs = Toward.zero.cut true (m <<< e.toNat) (-e).toNat by omega]
        rw [← e3]
        exact h4
    · cases hi
/-- A step may go as far: whole, from -2^20 to 2^20. -/
def isNear (z : Int) : Bool := decide (-16777216 ≤ z ∧ z ≤ 16777216 ∧ z % 16 = 0)
theorem near_low {x : Nat} {z : Int} (hx : FV x z) (h : z < -16777216) (w : World) : Calls Try.prog 24 #[.float .f64 x] w fun e w' => e = .returned (.bool false) ∧ w' = w := by
  have h1 := fGeq (hx.order FV.back) (v := false) (by rw [cmp_lt h]; rfl)
  clear hx h
  go_enter Try.func24, Try.ntmps24
  go_wp2_with (simp only [h1])
  all_goals (go_ret; exact ⟨rfl, rfl⟩)
theorem near_high {x : Nat} {z : Int} (hx : FV x z) (h : 16777216 < z) (w : World) : Calls Try.prog 24 #[.float .f64 x] w fun e w' => e = .returned (.bool false) ∧ w' = w := by
  have h1 := fGeq (hx.order FV.back) (v := true) (cmp_geq (by omega))
  have h2 := fLeq (hx.order FV.far) (v := false) (by rw [cmp_gt h]; rfl)
  clear hx h
  go_enter Try.func24, Try.ntmps24
  go_wp2_with (simp only [h1, h2])
  all_goals (go_ret; exact ⟨rfl, rfl⟩)
theorem near_mid {x : Nat} {z : Int} (hx : FV x z) (h0 : -16777216 ≤ z) (h1 : z ≤ 16777216) (w : World) : Calls Try.prog 24 #[.float .f64 x] w fun e w' => e = .returned (.bool (isNear z)) ∧ w' = w := by
  obtain ⟨r, HR⟩ : ∃ r, double.write ((double.read x).integral .zero) = r := ⟨_, rfl⟩
  have hr : FV r (16 * z.tdiv 16) := by rw [← HR]; exact hx.truncAny (by omega)
  have GT : Hid (∀ w, Calls Try.prog 35 #[.float .f64 x] w fun e w' => e = .returned (.float .f64 r) ∧ w' = w) := by
    obtain ⟨s, m, e, hd, _⟩ := hx
    exact Lib.hid (fun w => mathTrunc_any hd HR w)
  have e1 := fGeq (hx.order FV.back) (cmp_geq h0)
  have e2 := fLeq (hx.order FV.far) (cmp_leq h1)
  have e3 := fEql (hx.order hr) (v := isNear z) (by
    unfold isNear
    have hm := Int.mul_tdiv_add_tmod z 16
    by_cases h : z % 16 = 0
    · have ht : z.tmod 16 = 0 := Int.tmod_eq_zero_of_dvd (Int.dvd_of_emod_eq_zero h)
      rw [cmp_eq (by omega), decide_eq_true ⟨h0, h1, h⟩]; rfl
    · have ht : z.tmod 16 ≠ 0 := fun g => h (Int.emod_eq_zero_of_dvd (Int.dvd_of_tmod_eq_zero g))
      rw [decide_eq_false (fun g => h g.2.2)]
      rcases Int.lt_or_gt_of_ne (show z ≠ 16 * z.tdiv 16 by omega) with g | g
      · rw [cmp_lt g]; rfl
      · rw [cmp_gt g]; rfl)
  generalize isNear z = v at e3
  clear hr HR hx h0 h1
  go_enter Try.func24, Try.ntmps24
  go_wp2_with (simp only [e1, e2, e3])
  refine (GT.out _).mono ?_
  rintro e w' ⟨rfl, rfl⟩
  go_wp2
  all_goals (go_ret; exact ⟨rfl, rfl⟩)
theorem near_any {x : Nat} {z : Int} (hx : FV x z) (w : World) : Calls Try.prog 24 #[.float .f64 x] w fun e w' => e = .returned (.bool (isNear z)) ∧ w' = w := by
  rcases (show z < -16777216 ∨ (-16777216 ≤ z ∧ z ≤ 16777216) ∨ 16777216 < z by omega) with g | ⟨g, g'⟩ | g
  · rw [show isNear z = false from decide_eq_false (by omega)]
    exact near_low hx g w
  · exact near_mid hx g g' w
  · rw [show isNear z = false from decide_eq_false (by omega)]
    exact near_high hx g w
theorem held_any {x : Nat} {z : Int} (hx : FV x z) {n : Int} (h0 : 0 ≤ n) (h1 : n ≤ 1099511627776) (w : World) :
    Calls Try.prog 25 #[.float .f64 x, .int .i64 n] w fun e w' => (∃ r, e = .returned (.float .f64 r) ∧ FV r (min (max z 0) (16 * n))) ∧ w' = w := by
  obtain ⟨a, ha, fa⟩ := fmax_fv hx FV.c0
  have hn := FV.ofInt (n := n) (by omega)
  obtain ⟨c, hc, fc⟩ := fmin_fv fa hn
  clear hx h0 h1 fa hn
  go_enter Try.func25, Try.ntmps25
  go_wp2
  go_ret
  exact ⟨⟨c, rfl, fc⟩, rfl⟩

set_option maxRecDepth 100000 in
theorem step_bad {l : List Nat} (hv : ¬ ∃ vs, V l vs) (hb : ∀ x ∈ l, x < 256) (hl : l.length ≤ 1099511627776) (ca cb da db : Nat) (w : World) :
    Calls Try.prog 14 #[.string (bstr l), .complex .f64 ca cb, .complex .f64 da db] w fun e w' => e = .returned (.tuple #[.complex .f64 0 0, .int .i64 2]) ∧ Below w.heap.size w w' := by
  have GP := Lib.hid (fun w => place_bad hv hb hl ca cb w)
  clear hb hl
  go_enter Try.func14, Try.ntmps14
  go_wp2_with fail
  refine (GP.out _).mono ?_
  rintro e w1 ⟨rfl, hbel⟩
  have HB := Lib.hid hbel
  clear hbel
  go_wp2
  go_ret2
  exact ⟨rfl, HB.out⟩
set_option maxRecDepth 100000 in
theorem step_none {l vs : List Nat} (hv : V l vs) (hl : l.length ≤ 1099511627776) {ca cb : Nat} {x y : Int} (hca : FV ca x) (hcb : FV cb y) (hno : ∀ q : Nat, q ≤ vs.length → ¬ (16 * (col vs q : Int) = x ∧ 16 * (lin vs q : Int) = y)) (da db : Nat) (w : World) :
    Calls Try.prog 14 #[.string (bstr l), .complex .f64 ca cb, .complex .f64 da db] w fun e w' => e = .returned (.tuple #[.complex .f64 0 0, .int .i64 1]) ∧ Below w.heap.size w w' := by
  have GP := Lib.hid (fun w => place_in hv hl hca hcb w)
  have HNO := Lib.hid hno
  clear hno hv hl hca hcb
  go_enter Try.func14, Try.ntmps14
  go_wp2_with fail
  refine (GP.out _).mono ?_
  rintro e w1 ⟨⟨q, hq, hp, rfl⟩ | ⟨_, rfl⟩, hbel⟩
  · exact absurd hp (HNO.out q hq)
  · have HB := Lib.hid hbel
    clear hbel
    go_wp2
    go_ret2
    exact ⟨rfl, HB.out⟩
/-- A place's point is found. -/
theorem place_yes {l vs : List Nat} (hv : V l vs) (hl : l.length ≤ 1099511627776) {q : Nat} (hq : q ≤ vs.length) {ca cb : Nat} (hc : PtV ca cb (col vs q : Int) (lin vs q : Int)) (w : World) :
    Calls Try.prog 13 #[.string (bstr l), .complex .f64 ca cb] w fun e W' => e = .returned (.tuple #[.int .i64 (q : Int), .int .i64 0]) ∧ Below w.heap.size w W' := by
  refine (place_in hv hl hc.1 hc.2 w).mono ?_
  rintro e W' ⟨⟨q2, h1, h2, rfl⟩ | ⟨hno, rfl⟩, hb⟩
  · obtain rfl := point_inj vs (show lin vs q2 = lin vs q by omega) (by omega)
    exact ⟨rfl, hb⟩
  · exact absurd ⟨rfl, rfl⟩ (hno q hq)
set_option maxRecDepth 100000 in
theorem step_far {l vs : List Nat} (hv : V l vs) (hl : l.length ≤ 1099511627776) {q : Nat} (hq : q ≤ vs.length) {ca cb da db : Nat} (hc : PtV ca cb (col vs q : Int) (lin vs q : Int)) {x y : Int} (hda : FV da x) (hdb : FV db y) (hno : ¬ (isNear x = true ∧ isNear y = true)) (w : World) :
    Calls Try.prog 14 #[.string (bstr l), .complex .f64 ca cb, .complex .f64 da db] w fun e w' => e = .returned (.tuple #[.complex .f64 0 0, .int .i64 1]) ∧ Below w.heap.size w w' := by
  have GP := Lib.hid (fun w => place_yes hv hl hq hc w)
  have G1 := Lib.hid (fun w => near_any hda w)
  have G2 := Lib.hid (fun w => near_any hdb w)
  generalize isNear x = r1 at G1 hno
  generalize isNear y = r2 at G2 hno
  clear hv hl hc hda hdb hq
  go_enter Try.func14, Try.ntmps14
  go_wp2_with fail
  refine (GP.out _).mono ?_
  rintro e w1 ⟨rfl, hbel⟩
  have HB := Lib.hid hbel
  clear hbel
  go_wp2_with fail
  refine (G1.out _).mono ?_
  rintro e w2 ⟨rfl, rfl⟩
  cases r1
  · go_wp2
    go_ret2
    exact ⟨rfl, HB.out⟩
  · cases r2
    · go_wp2_with fail
      refine (G2.out _).mono ?_
      rintro e w3 ⟨rfl, rfl⟩
      go_wp2
      go_ret2
      exact ⟨rfl, HB.out⟩
    · exact absurd ⟨rfl, rfl⟩ hno
theorem isNear_yes {a : Int} (h0 : -1048576 ≤ a) (h1 : a ≤ 1048576) : isNear (16 * a) = true := decide_eq_true (by omega)
theorem isNear_no {a : Int} (h : ¬ (-1048576 ≤ a ∧ a ≤ 1048576)) : isNear (16 * a) = false := decide_eq_false (by omega)
set_option maxHeartbeats 1000000 in
set_option maxRecDepth 100000 in
theorem step_yes {l vs : List Nat} (hv : V l vs) (hl : l.length ≤ 1099511627776) {q : Nat} (hq : q ≤ vs.length) {ca cb da db : Nat} (hc : PtV ca cb (col vs q : Int) (lin vs q : Int)) {a b : Int} (hd : PtV da db a b) (ha0 : -1048576 ≤ a) (ha1 : a ≤ 1048576) (hb0 : -1048576 ≤ b) (hb1 : b ≤ 1048576)
    {L : Nat} (hL : (L : Int) = min (max ((lin vs q : Int) + b) 0) (lst vs : Int)) {C : Int} (hC : C = min (max ((col vs q : Int) + a) 0) (wdt vs L : Int)) (w : World) :
    Calls Try.prog 14 #[.string (bstr l), .complex .f64 ca cb, .complex .f64 da db] w fun e w' => (∃ r s, e = .returned (.tuple #[.complex .f64 r s, .int .i64 0]) ∧ PtV r s C (L : Int)) ∧ Below w.heap.size w w' := by
  have GP := Lib.hid (fun w => place_yes hv hl hq hc w)
  have G1 := Lib.hid (fun w => near_any hd.1 w)
  have G2 := Lib.hid (fun w => near_any hd.2 w)
  rw [isNear_yes ha0 ha1] at G1
  rw [isNear_yes hb0 hb1] at G2
  have GL := Lib.hid (fun w => lines_yes hv hl w)
  have hLl : L ≤ lst vs := by omega
  have GW := Lib.hid (fun w => width_in hv hl (L : Int) w)
  rw [wOut_yes hLl, wErr_yes hLl] at GW
  have b1 := hv.length_le
  have b2 := lst_le vs
  have b3 := wdt_le vs hLl
  have b4 := col_le vs q
  have b5 := lin_le vs q
  obtain ⟨re, im, hs, hre, him⟩ := cadd_fv hc.1 hc.2 hd.1 hd.2 (by omega) (by omega)
  have hop := rAdd hs
  clear hs
  have GH := Lib.hid (fun w => held_any him (n := (lst vs : Int)) (by omega) (by omega) w)
  rw [show min (max (16 * (lin vs q : Int) + 16 * b) 0) (16 * (lst vs : Int)) = 16 * (L : Int) by omega] at GH
  have GK := Lib.hid (fun w => held_any hre (n := (wdt vs L : Int)) (by omega) (by omega) w)
  rw [show min (max (16 * (col vs q : Int) + 16 * a) 0) (16 * (wdt vs L : Int)) = 16 * C by omega] at GK
  have hLb : (L : Int) ≤ 1099511627776 := by omega
  have hlo : (0 : Int) ≤ (lst vs : Int) ∧ (lst vs : Int) ≤ 1099511627776 := by omega
  obtain ⟨hlo, hhi⟩ := hlo
  clear hv hl hc hd hq ha0 ha1 hb0 hb1 hL hC hre him b1 b2 b3 b4 b5 hLl
  generalize (lst vs : Int) = N at *
  generalize (wdt vs L : Int) = W at *
  have hL0 : (0 : Int) ≤ (L : Int) := by omega
  go_enter Try.func14, Try.ntmps14
  go_wp2_with fail
  refine (GP.out _).mono ?_
  rintro e w1 ⟨rfl, hbel⟩
  have HB := Lib.hid hbel
  clear hbel
  go_wp2_with fail
  refine (G1.out _).mono ?_
  rintro e w2 ⟨rfl, rfl⟩
  go_wp2_with fail
  refine (G2.out _).mono ?_
  rintro e w3 ⟨rfl, rfl⟩
  go_wp2_with fail
  refine (GL.out _).mono ?_
  rintro e w4 ⟨rfl, rfl⟩
  go_wp2_with fail
  refine (GH.out _).mono ?_
  rintro e w5 ⟨⟨r, rfl, hr⟩, rfl⟩
  have hcv := rToInt hr (by omega)
  have HR := Lib.hid hr
  clear hr
  go_wp2_with fail
  refine (GW.out _).mono ?_
  rintro e w6 ⟨rfl, hbel⟩
  have HB2 := Lib.hid (HB.out.trans (hbel.mono HB.out.size))
  clear hbel
  go_wp2_with fail
  refine (GK.out _).mono ?_
  rintro e w7 ⟨⟨s, rfl, hs⟩, rfl⟩
  go_wp2
  go_ret2
  exact ⟨⟨s, r, rfl, hs, HR.out⟩, HB2.out⟩
end Go.Proofs.Ytgenphpaidanhaa
