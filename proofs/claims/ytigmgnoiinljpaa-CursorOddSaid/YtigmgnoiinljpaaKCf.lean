/- The landed Of, Places, Turn, Span, Within, Shift, at what is a selection and at what is none. Condition: each part is a number, below 2^53 sixteenths or far from nought. -/
import Derived.Test.YtigmgnoiinljpaaKCo
import Derived.OwnWalk
/- The landed Of, Places, Turn, Span, Within, Shift, at what is a selection and at what is none. Condition: each part is a number, below 2^53 sixteenths or far from nought. -/
namespace Go.Proofs.Ytigmgnoiinljpaa
open Go.RowKit Go.Deep Ieee
attribute [-go_sem] binOp_float_cmp_eql binOp_float_cmp_neq binOp_float_cmp_lss binOp_float_cmp_leq binOp_float_cmp_gtr binOp_float_cmp_geq run_eql_complex run_neq_complex

/-- a + bi stands for the selection of x and y. -/
structure Sel (a b : Nat) (x y : Int) : Prop where
  re : FV a (16 * x)
  im : FV b (16 * y)
  x0 : 0 ≤ x
  x1 : x ≤ 1099511627776
  y0 : 0 ≤ y
  y1 : y ≤ 1099511627776
/-- a + bi is no selection. -/
def NoSel (a b : Nat) : Prop := ∃ r q, PlB a r ∧ PlB b q ∧ (r && q) = false
theorem selection_yes {a b : Nat} {x y : Int} (h : Sel a b x y) (w : World) : Calls Try.prog 23 #[.complex .f64 a b] w fun e w' => e = .returned (.bool true) ∧ w' = w := selection_any (PlB.yes h.re h.x0 h.x1) (PlB.yes h.im h.y0 h.y1) w
theorem selection_no {a b : Nat} (h : NoSel a b) (w : World) : Calls Try.prog 23 #[.complex .f64 a b] w fun e w' => e = .returned (.bool false) ∧ w' = w := by
  obtain ⟨r, q, h1, h2, h3⟩ := h
  have := selection_any h1 h2 w
  rw [h3] at this
  exact this
theorem sel_mk {x y : Int} (h0 : 0 ≤ x) (h1 : x ≤ 1099511627776) (h2 : 0 ≤ y) (h3 : y ≤ 1099511627776) : Sel (floatOfInt .f64 x) (floatOfInt .f64 y) x y := ⟨FV.ofInt (by omega), FV.ofInt (by omega), h0, h1, h2, h3⟩
theorem nosel_mk {x y : Int} (hx : Fit64 x) (hy : Fit64 y) (h : ¬ (0 ≤ x ∧ x ≤ 1099511627776 ∧ 0 ≤ y ∧ y ≤ 1099511627776)) : NoSel (floatOfInt .f64 x) (floatOfInt .f64 y) := by
  unfold Fit64 at hx hy
  refine ⟨_, _, PlB.ofInt (by omega) (by omega), PlB.ofInt (by omega) (by omega), ?_⟩
  rw [← Bool.decide_and]
  exact decide_eq_false (by omega)
theorem of_yes {x y : Int} (h0 : 0 ≤ x) (h1 : x ≤ 1099511627776) (h2 : 0 ≤ y) (h3 : y ≤ 1099511627776) (w : World) :
    Calls Try.prog 7 #[.int .i64 x, .int .i64 y] w fun e w' => e = .returned (.tuple #[.complex .f64 (floatOfInt .f64 x) (floatOfInt .f64 y), .int .i64 0]) ∧ w' = w := by
  have G := Lib.hid (fun w => selection_yes (sel_mk h0 h1 h2 h3) w)
  clear h0 h1 h2 h3
  go_enter Try.func7, Try.ntmps7
  go_wp2_with fail
  refine (G.out _).mono ?_
  rintro e w' ⟨rfl, rfl⟩
  go_wp2
  go_ret2
  exact ⟨rfl, rfl⟩
theorem of_no {x y : Int} (hx : Fit64 x) (hy : Fit64 y) (h : ¬ (0 ≤ x ∧ x ≤ 1099511627776 ∧ 0 ≤ y ∧ y ≤ 1099511627776)) (w : World) :
    Calls Try.prog 7 #[.int .i64 x, .int .i64 y] w fun e w' => e = .returned (.tuple #[.complex .f64 0 0, .int .i64 1]) ∧ w' = w := by
  have G := Lib.hid (fun w => selection_no (nosel_mk hx hy h) w)
  clear hx hy h
  go_enter Try.func7, Try.ntmps7
  go_wp2_with fail
  refine (G.out _).mono ?_
  rintro e w' ⟨rfl, rfl⟩
  go_wp2
  go_ret2
  exact ⟨rfl, rfl⟩
theorem places_yes {a b : Nat} {x y : Int} (h : Sel a b x y) (w : World) :
    Calls Try.prog 9 #[.complex .f64 a b] w fun e w' => e = .returned (.tuple #[.int .i64 x, .int .i64 y, .bool true]) ∧ w' = w := by
  have G := Lib.hid (fun w => selection_yes h w)
  have e1 := rToInt h.re (by have := h.x0; have := h.x1; omega)
  have e2 := rToInt h.im (by have := h.y0; have := h.y1; omega)
  clear h
  go_enter Try.func9, Try.ntmps9
  go_wp2_with fail
  refine (G.out _).mono ?_
  rintro e w' ⟨rfl, rfl⟩
  go_wp2
  go_ret3
  exact ⟨rfl, rfl⟩
theorem places_no {a b : Nat} (h : NoSel a b) (w : World) :
    Calls Try.prog 9 #[.complex .f64 a b] w fun e w' => e = .returned (.tuple #[.int .i64 0, .int .i64 0, .bool false]) ∧ w' = w := by
  have G := Lib.hid (fun w => selection_no h w)
  clear h
  go_enter Try.func9, Try.ntmps9
  go_wp2_with fail
  refine (G.out _).mono ?_
  rintro e w' ⟨rfl, rfl⟩
  go_wp2
  go_ret3
  exact ⟨rfl, rfl⟩
theorem turn_yes {a b : Nat} {x y : Int} (h : Sel a b x y) (w : World) :
    Calls Try.prog 10 #[.complex .f64 a b] w fun e w' => (∃ a' b', e = .returned (.complex .f64 a' b') ∧ Sel a' b' y x) ∧ w' = w := by
  have G := Lib.hid (fun w => selection_yes h w)
  obtain ⟨p, q, r, s, u, v⟩ := h
  obtain ⟨m, n, e1, f1, f2⟩ := cmul_fv (p := 0) (q := -(16 * y)) (r := 16 * x) (s := 0) p q.neg FV.c0 FV.c1 (by omega) (by omega) (by omega) (by omega) (by omega) (by omega) (by omega) (by omega) (by omega) (by omega)
  obtain ⟨i, j, e2, f3, f4⟩ := cadd_fv f1 f2 FV.c0 FV.c0 (by omega) (by omega)
  have HS := Lib.hid (show Sel i j y x from ⟨by rw [show 16 * y = 0 - -(16 * y) + 0 by omega]; exact f3, by rw [show 16 * x = 16 * x + 0 + 0 by omega]; exact f4, u, v, r, s⟩)
  clear p q r s u v f1 f2 f3 f4
  have r1 := rMul e1
  have r2 := rAdd e2
  have r0 := rNeg b
  clear e1 e2
  go_enter Try.func10, Try.ntmps10
  go_wp2_with fail
  refine (G.out _).mono ?_
  rintro e w' ⟨rfl, rfl⟩
  go_wp2
  go_ret
  exact ⟨⟨_, _, rfl, HS.out⟩, rfl⟩
theorem turn_no {a b : Nat} (h : NoSel a b) (w : World) :
    Calls Try.prog 10 #[.complex .f64 a b] w fun e w' => e = .returned (.complex .f64 a b) ∧ w' = w := by
  have G := Lib.hid (fun w => selection_no h w)
  clear h
  go_enter Try.func10, Try.ntmps10
  go_wp2_with fail
  refine (G.out _).mono ?_
  rintro e w' ⟨rfl, rfl⟩
  go_wp2
  go_ret
  exact ⟨rfl, rfl⟩
theorem span_yes {a b : Nat} {x y : Int} (h : Sel a b x y) (w : World) :
    Calls Try.prog 11 #[.complex .f64 a b] w fun e w' => e = .returned (.tuple #[.int .i64 (min x y), .int .i64 (max x y)]) ∧ w' = w := by
  have G := Lib.hid (fun w => places_yes h w)
  clear h
  rcases Int.lt_trichotomy x y with c | c | c
  · rw [show min x y = x by omega, show max x y = y by omega]
    go_enter Try.func11, Try.ntmps11
    go_wp2_with fail
    refine (G.out _).mono ?_
    rintro e w' ⟨rfl, rfl⟩
    go_wp2
    go_ret2
    exact ⟨rfl, rfl⟩
  · subst c
    rw [show min x x = x by omega, show max x x = x by omega]
    go_enter Try.func11, Try.ntmps11
    go_wp2_with fail
    refine (G.out _).mono ?_
    rintro e w' ⟨rfl, rfl⟩
    go_wp2
    go_ret2
    exact ⟨rfl, rfl⟩
  · rw [show min x y = y by omega, show max x y = x by omega]
    go_enter Try.func11, Try.ntmps11
    go_wp2_with fail
    refine (G.out _).mono ?_
    rintro e w' ⟨rfl, rfl⟩
    go_wp2
    go_ret2
    exact ⟨rfl, rfl⟩
theorem span_no {a b : Nat} (h : NoSel a b) (w : World) :
    Calls Try.prog 11 #[.complex .f64 a b] w fun e w' => e = .returned (.tuple #[.int .i64 0, .int .i64 0]) ∧ w' = w := by
  have G := Lib.hid (fun w => places_no h w)
  clear h
  go_enter Try.func11, Try.ntmps11
  go_wp2_with fail
  refine (G.out _).mono ?_
  rintro e w' ⟨rfl, rfl⟩
  go_wp2
  go_ret2
  exact ⟨rfl, rfl⟩
theorem within_yes {a b : Nat} {x y : Int} (h : Sel a b x y) (n : Int) (w : World) :
    Calls Try.prog 12 #[.complex .f64 a b, .int .i64 n] w fun e w' => e = .returned (.bool (decide (max x y ≤ n))) ∧ w' = w := by
  have G := Lib.hid (fun w => span_yes h w)
  have S := Lib.hid (fun w => selection_yes h w)
  clear h
  generalize max x y = m at G
  generalize min x y = k at G
  go_enter Try.func12, Try.ntmps12
  go_wp2_with fail
  refine (G.out _).mono ?_
  rintro e w' ⟨rfl, rfl⟩
  go_wp2_with fail
  refine (S.out _).mono ?_
  rintro e w' ⟨rfl, rfl⟩
  go_wp2
  go_ret
  exact ⟨by simp, rfl⟩
theorem within_no {a b : Nat} (h : NoSel a b) (n : Int) (w : World) :
    Calls Try.prog 12 #[.complex .f64 a b, .int .i64 n] w fun e w' => e = .returned (.bool false) ∧ w' = w := by
  have G := Lib.hid (fun w => span_no h w)
  have S := Lib.hid (fun w => selection_no h w)
  clear h
  go_enter Try.func12, Try.ntmps12
  go_wp2_with fail
  refine (G.out _).mono ?_
  rintro e w' ⟨rfl, rfl⟩
  go_wp2_with fail
  refine (S.out _).mono ?_
  rintro e w' ⟨rfl, rfl⟩
  go_wp2
  go_ret
  exact ⟨rfl, rfl⟩
/-- What a step is, both ways, as the landed code makes it. -/
theorem step_fv {n : Int} (h : n.natAbs < 562949953421312) : ∃ m k, cMulBits (floatOfInt .f64 n) 0 4607182418800017408 4607182418800017408 = some (m, k) ∧ FV m (16 * n) ∧ FV k (16 * n) := by
  obtain ⟨m, k, e, f1, f2⟩ := cmul_fv (p := 16 * n) (q := 0) (r := 16 * n) (s := 0) (FV.ofInt h) FV.c0 FV.c1 FV.c1 (by omega) (by omega) (by omega) (by omega) (by omega) (by omega) (by omega) (by omega) (by omega) (by omega)
  exact ⟨m, k, e, by rw [show 16 * n = 16 * n - 0 by omega]; exact f1, by rw [show 16 * n = 16 * n + 0 by omega]; exact f2⟩
theorem step_bv {n : Int} (h : 281474976710656 ≤ n.natAbs) (h2 : n.natAbs ≤ 9223372036854775808) : ∃ m k s, cMulBits (floatOfInt .f64 n) 0 4607182418800017408 4607182418800017408 = some (m, k) ∧ BV m s 47 67 ∧ BV k s 47 67 := by
  have hb := BV.ofInt h h2
  obtain ⟨m1, e1, f1⟩ := hb.mul_one (by omega) (by omega)
  obtain ⟨m2, e2, f2⟩ := FV.c0.mul FV.c1 (p := 0) (by omega) (by omega)
  obtain ⟨m3, e3, f3⟩ := f1.sub' f2 (by omega) (by omega) (by omega)
  obtain ⟨m6, e6, f6⟩ := f1.add' f2 (by omega) (by omega) (by omega)
  refine ⟨m3, m6, _, ?_, f3, f6⟩
  unfold cMulBits
  simp only [e1, e2, e3, e6, some_bind]
theorem shift_go {a b m k i j : Nat} {n : Int} {x y : Int} (hs : Sel a b x y) (e1 : cMulBits (floatOfInt .f64 n) 0 4607182418800017408 4607182418800017408 = some (m, k)) (e2 : cSumBits .add .f64 a b m k = some (i, j)) {r : Bool}
    (hr : ∀ w, Calls Try.prog 23 #[.complex .f64 i j] w fun e w' => e = .returned (.bool r) ∧ w' = w) (w : World) :
    Calls Try.prog 13 #[.complex .f64 a b, .int .i64 n] w fun e w' => e = .returned (.tuple #[if r then .complex .f64 i j else .complex .f64 0 0, .int .i64 (if r then 0 else 1)]) ∧ w' = w := by
  have G := Lib.hid (fun w => selection_yes hs w)
  have GR := Lib.hid hr
  have r1 := rMul e1
  have r2 := rAdd e2
  clear hs hr e1 e2
  go_enter Try.func13, Try.ntmps13
  go_wp2_with fail
  refine (G.out _).mono ?_
  rintro e w' ⟨rfl, rfl⟩
  go_wp2_with fail
  refine (GR.out _).mono ?_
  rintro e w' ⟨rfl, rfl⟩
  cases r
  · go_wp2
    go_ret2
    exact ⟨rfl, rfl⟩
  · go_wp2
    go_ret2
    exact ⟨rfl, rfl⟩
theorem shift_yes {a b : Nat} {x y n : Int} (hs : Sel a b x y) (h0 : 0 ≤ min x y + n) (h1 : max x y + n ≤ 1099511627776) (w : World) :
    Calls Try.prog 13 #[.complex .f64 a b, .int .i64 n] w fun e w' => (∃ i j, e = .returned (.tuple #[.complex .f64 i j, .int .i64 0]) ∧ Sel i j (x + n) (y + n)) ∧ w' = w := by
  obtain ⟨a1, a2, a3, a4, a5, a6⟩ := hs
  obtain ⟨m, k, e1, f1, f2⟩ := step_fv (n := n) (by omega)
  obtain ⟨i, j, e2, f3, f4⟩ := cadd_fv a1 a2 f1 f2 (by omega) (by omega)
  have hS : Sel i j (x + n) (y + n) := ⟨by rw [show 16 * (x + n) = 16 * x + 16 * n by omega]; exact f3, by rw [show 16 * (y + n) = 16 * y + 16 * n by omega]; exact f4, by omega, by omega, by omega, by omega⟩
  refine (shift_go ⟨a1, a2, a3, a4, a5, a6⟩ e1 e2 (r := true) (fun w => selection_yes hS w) w).mono ?_
  rintro e w' ⟨rfl, rfl⟩
  exact ⟨⟨i, j, rfl, hS⟩, rfl⟩
theorem shift_far {a b : Nat} {x y n : Int} (hs : Sel a b x y) (hn : Fit64 n) (h : ¬ (0 ≤ min x y + n ∧ max x y + n ≤ 1099511627776)) (w : World) :
    Calls Try.prog 13 #[.complex .f64 a b, .int .i64 n] w fun e w' => e = .returned (.tuple #[.complex .f64 0 0, .int .i64 1]) ∧ w' = w := by
  unfold Fit64 at hn
  obtain ⟨a1, a2, a3, a4, a5, a6⟩ := hs
  by_cases hs : n.natAbs < 281474976710656
  · obtain ⟨m, k, e1, f1, f2⟩ := step_fv (n := n) (by omega)
    obtain ⟨i, j, e2, f3, f4⟩ := cadd_fv a1 a2 f1 f2 (by omega) (by omega)
    refine shift_go ⟨a1, a2, a3, a4, a5, a6⟩ e1 e2 (r := false) (fun w => selection_no ⟨_, _, .inl ⟨_, f3, by omega, rfl⟩, .inl ⟨_, f4, by omega, rfl⟩, ?_⟩ w) w
    unfold isPl
    rw [← Bool.decide_and]
    exact decide_eq_false (by omega)
  · obtain ⟨m, k, s, e1, f1, f2⟩ := step_bv (n := n) (by omega) (by omega)
    obtain ⟨i, g1, f3⟩ := BV.add a1 f1 (by omega) (by omega) (by omega)
    obtain ⟨j, g2, f4⟩ := BV.add a2 f2 (by omega) (by omega) (by omega)
    have e2 : cSumBits .add .f64 a b m k = some (i, j) := by unfold cSumBits; simp only [g1, g2, some_bind]
    exact shift_go ⟨a1, a2, a3, a4, a5, a6⟩ e1 e2 (r := false) (fun w => selection_no ⟨_, _, .inr ⟨rfl, _, f3.mono (by omega) (by omega)⟩, .inr ⟨rfl, _, f4.mono (by omega) (by omega)⟩, rfl⟩ w) w
/-- A step of nought of what is no selection. -/
theorem shift_no {a b : Nat} {x y : Int} (hs : NoSel a b) (ha : FV a x) (hb : FV b y) (hx : x.natAbs ≤ 17592186044416) (hy : y.natAbs ≤ 17592186044416) (w : World) :
    Calls Try.prog 13 #[.complex .f64 a b, .int .i64 0] w fun e w' => e = .returned (.tuple #[.complex .f64 0 0, .int .i64 1]) ∧ w' = w := by
  obtain ⟨m, k, e1, f1, f2⟩ := step_fv (n := 0) (by omega)
  obtain ⟨i, j, e2, f3, f4⟩ := cadd_fv ha hb f1 f2 (by omega) (by omega)
  have G := Lib.hid (fun w => selection_no hs w)
  have r1 := rMul e1
  have r2 := rAdd e2
  clear hs e1 e2 ha hb f1 f2 f3 f4
  go_enter Try.func13, Try.ntmps13
  go_wp2_with fail
  refine (G.out _).mono ?_
  rintro e w' ⟨rfl, rfl⟩
  go_wp2
  go_ret2
  exact ⟨rfl, rfl⟩
end Go.Proofs.Ytigmgnoiinljpaa
