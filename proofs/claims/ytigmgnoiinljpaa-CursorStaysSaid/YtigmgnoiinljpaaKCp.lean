/- What tells whether a float is a place, and whether a complex number is a selection. Condition: each is a number, below 2^53 sixteenths, or far from nought. -/
import Derived.Test.YtigmgnoiinljpaaKFl
import Derived.Test.YtigmgnoiinljpaaKOp
import Derived.Laws.Externs
import Derived.WalkLawsBesides
import Derived.Lib.Hide
/- What tells whether a float is a place, and whether a complex number is a selection. Condition: each is a number, below 2^53 sixteenths, or far from nought. -/
namespace Go.Proofs.Ytigmgnoiinljpaa
open Go.RowKit Go.Deep Ieee
attribute [-go_sem] binOp_float_cmp_eql binOp_float_cmp_neq binOp_float_cmp_lss binOp_float_cmp_leq binOp_float_cmp_gtr binOp_float_cmp_geq run_eql_complex run_neq_complex

/-- z sixteenths are a place. -/
def isPl (z : Int) : Bool := decide (0 ≤ z ∧ z ≤ 17592186044416 ∧ z % 16 = 0)
/-- The float with bits b is a place (r), or none, and that can be told. -/
def PlB (b : Nat) (r : Bool) : Prop := (∃ z, FV b z ∧ z.natAbs < 9007199254740992 ∧ r = isPl z) ∨ (r = false ∧ ∃ s, BV b s 45 90)
theorem isPl_yes {n : Int} (h0 : 0 ≤ n) (h1 : n ≤ 1099511627776) : isPl (16 * n) = true := by unfold isPl; exact decide_eq_true (by omega)
theorem isPl_no {n : Int} (h : ¬ (0 ≤ n ∧ n ≤ 1099511627776)) : isPl (16 * n) = false := by unfold isPl; exact decide_eq_false (by omega)
theorem PlB.yes {b : Nat} {n : Int} (h : FV b (16 * n)) (h0 : 0 ≤ n) (h1 : n ≤ 1099511627776) : PlB b true := .inl ⟨_, h, by omega, (isPl_yes h0 h1).symm⟩
theorem PlB.no {b : Nat} {n : Int} (h : FV b (16 * n)) (h0 : n.natAbs < 562949953421312) (h1 : ¬ (0 ≤ n ∧ n ≤ 1099511627776)) : PlB b false := .inl ⟨_, h, by omega, (isPl_no h1).symm⟩
theorem PlB.ofInt {n : Int} (hn : -9223372036854775808 ≤ n) (hn2 : n ≤ 9223372036854775807) : PlB (floatOfInt .f64 n) (decide (0 ≤ n ∧ n ≤ 1099511627776)) := by
  by_cases h : n.natAbs < 562949953421312
  · refine .inl ⟨16 * n, FV.ofInt h, by omega, ?_⟩
    by_cases g : 0 ≤ n ∧ n ≤ 1099511627776
    · rw [decide_eq_true g, isPl_yes g.1 g.2]
    · rw [decide_eq_false g, isPl_no g]
  · exact .inr ⟨decide_eq_false (by omega), _, (BV.ofInt (by omega) (by omega)).mono (by omega) (by omega)⟩

theorem integral_number (nm : String) (way : Toward) {x : Nat} {s : Bool} {m : Nat} {e : Int} (h : double.read x = .number s m e) :
    Extern.MathFloor.toIntegral nm way #[.float .f64 x] = pure (.float .f64 (double.write ((double.read x).integral way))) := by
  have m2 : ∀ (f : Nat → Sem Value) (g : Array Value → Sem Value), Extern.MathFloor.toIntegral.match_2 (fun _ => Sem Value) #[.float .f64 x] f g = f x := fun _ _ => rfl
  have hd : FloatKind.f64.decode x = .number s m e := h
  delta Extern.MathFloor.toIntegral
  rw [m2, hd, h]
  rfl
theorem run_trunc {x : Nat} {s : Bool} {m : Nat} {e : Int} (h : double.read x = .number s m e) (w : World) :
    (callFunc 53 #[.float .f64 x]).run Try.prog w = .ok (.value (.float .f64 (double.write ((double.read x).integral .zero)))) w := by
  rw [run_callFunc_extern Try.func53 (by kernel_rfl) (by kernel_rfl) (by kernel_rfl) (by kernel_rfl : Extern.find _ = some (Extern.MathFloor.toIntegral "math.archTrunc" .zero))]
  rw [integral_number "math.archTrunc" .zero h]
  rfl
theorem mathTrunc_any {x r : Nat} {s : Bool} {m : Nat} {e : Int} (h : double.read x = .number s m e) (hr : double.write ((double.read x).integral .zero) = r) (w : World) :
    Calls Try.prog 49 #[.float .f64 x] w fun e w' => e = .returned (.float .f64 r) ∧ w' = w := by
  have hop := fun w => run_trunc h w
  rw [hr] at hop
  go_enter Try.func49, Try.ntmps49
  go_wp2_with (simp only [hop])
  all_goals (go_ret; exact ⟨rfl, rfl⟩)
theorem order_fv {a b : Nat} {x y : Int} (ha : FV a x) (hb : FV b y) : FloatKind.f64.format.order a b = some (compare x y) := FV.order ha hb
theorem fGeq {a b : Nat} {o : Ordering} (h : double.order a b = some o) {v : Bool} (hv : (o == .gt || o == .eq) = v) (t : TypeId) (w : World) : (binOp .geq t (.float .f64 a) (.float .f64 b)).run Try.prog w = .ok (.bool v) w := by
  have h' : FloatKind.f64.format.order a b = some o := h
  rw [binOp_float_cmp_geq, h', ← hv]
  cases o <;> rfl
theorem fLeq {a b : Nat} {o : Ordering} (h : double.order a b = some o) {v : Bool} (hv : (o == .lt || o == .eq) = v) (t : TypeId) (w : World) : (binOp .leq t (.float .f64 a) (.float .f64 b)).run Try.prog w = .ok (.bool v) w := by
  have h' : FloatKind.f64.format.order a b = some o := h
  rw [binOp_float_cmp_leq, h', ← hv]
  cases o <;> rfl
theorem fEql {a b : Nat} {o : Ordering} (h : double.order a b = some o) {v : Bool} (hv : (o == .eq) = v) (t : TypeId) (w : World) : (binOp .eql t (.float .f64 a) (.float .f64 b)).run Try.prog w = .ok (.bool v) w := by
  have h' : FloatKind.f64.format.order a b = some o := h
  rw [binOp_float_cmp_eql, h', ← hv]
  cases o <;> rfl
theorem fGtr {a b : Nat} {o : Ordering} (h : double.order a b = some o) {v : Bool} (hv : (o == .gt) = v) (t : TypeId) (w : World) : (binOp .gtr t (.float .f64 a) (.float .f64 b)).run Try.prog w = .ok (.bool v) w := by
  have h' : FloatKind.f64.format.order a b = some o := h
  rw [binOp_float_cmp_gtr, h', ← hv]
  cases o <;> rfl
theorem cmp_lt {x y : Int} (h : x < y) : compare x y = .lt := by show compareOfLessAndEq x y = _; unfold compareOfLessAndEq; rw [if_pos h]
theorem cmp_eq {x y : Int} (h : x = y) : compare x y = .eq := by show compareOfLessAndEq x y = _; unfold compareOfLessAndEq; rw [if_neg (by omega), if_pos h]
theorem cmp_gt {x y : Int} (h : y < x) : compare x y = .gt := by show compareOfLessAndEq x y = _; unfold compareOfLessAndEq; rw [if_neg (by omega), if_neg (by omega)]
theorem cmp_geq {x y : Int} (h : y ≤ x) : (compare x y == .gt || compare x y == .eq) = true := by
  rcases Int.lt_or_eq_of_le h with h | h
  · rw [cmp_gt h]; rfl
  · rw [cmp_eq h.symm]; rfl
theorem cmp_leq {x y : Int} (h : x ≤ y) : (compare x y == .lt || compare x y == .eq) = true := by
  rcases Int.lt_or_eq_of_le h with h | h
  · rw [cmp_lt h]; rfl
  · rw [cmp_eq h]; rfl
theorem place_no0 {x : Nat} (h : double.order x 0 = some .lt) (w : World) : Calls Try.prog 38 #[.float .f64 x] w fun e w' => e = .returned (.bool false) ∧ w' = w := by
  have h1 := fGeq h (v := false) rfl
  go_enter Try.func38, Try.ntmps38
  go_wp2_with (simp only [h1])
  all_goals (go_ret; exact ⟨rfl, rfl⟩)
theorem place_no1 {x : Nat} {o : Ordering} (h : double.order x 0 = some o) (ho : (o == .gt || o == .eq) = true) (h2 : double.order x 4787326403894837248 = some .gt) (w : World) : Calls Try.prog 38 #[.float .f64 x] w fun e w' => e = .returned (.bool false) ∧ w' = w := by
  have h1 := fGeq h ho
  have h3 := fLeq h2 (v := false) rfl
  go_enter Try.func38, Try.ntmps38
  go_wp2_with (simp only [h1, h3])
  all_goals (go_ret; exact ⟨rfl, rfl⟩)
theorem place_in {x : Nat} {z : Int} (hx : FV x z) (h0 : 0 ≤ z) (h1 : z ≤ 17592186044416) (w : World) : Calls Try.prog 38 #[.float .f64 x] w fun e w' => e = .returned (.bool (isPl z)) ∧ w' = w := by
  obtain ⟨r, HR⟩ : ∃ r, double.write ((double.read x).integral .zero) = r := ⟨_, rfl⟩
  have hr : FV r (16 * (z / 16)) := by rw [← HR]; exact hx.trunc h0 (by omega)
  have GT : Hid (∀ w, Calls Try.prog 49 #[.float .f64 x] w fun e w' => e = .returned (.float .f64 r) ∧ w' = w) := by
    obtain ⟨s, m, e, hd, _⟩ := hx
    exact Lib.hid (fun w => mathTrunc_any hd HR w)
  have e1 := fGeq (hx.order FV.c0) (cmp_geq h0)
  have e2 := fLeq (hx.order FV.c40) (cmp_leq h1)
  have e3 := fEql (hx.order hr) (v := isPl z) (by
    unfold isPl
    by_cases h : z % 16 = 0
    · rw [cmp_eq (by omega), decide_eq_true ⟨h0, h1, h⟩]; rfl
    · rw [cmp_gt (by omega), decide_eq_false (fun g => h g.2.2)]; rfl)
  generalize isPl z = v at e3
  clear hr HR hx h0 h1
  go_enter Try.func38, Try.ntmps38
  go_wp2_with (simp only [e1, e2, e3])
  refine (GT.out _).mono ?_
  rintro e w' ⟨rfl, rfl⟩
  go_wp2
  all_goals (go_ret; exact ⟨rfl, rfl⟩)
theorem place_any {x : Nat} {r : Bool} (h : PlB x r) (w : World) : Calls Try.prog 38 #[.float .f64 x] w fun e w' => e = .returned (.bool r) ∧ w' = w := by
  rcases h with ⟨z, hz, hb, rfl⟩ | ⟨rfl, s, hs⟩
  · rcases (show z < 0 ∨ (0 ≤ z ∧ z ≤ 17592186044416) ∨ 17592186044416 < z by omega) with g | ⟨g, g'⟩ | g
    · rw [show isPl z = false from decide_eq_false (by omega)]
      exact place_no0 (by rw [hz.order FV.c0, cmp_lt g]) w
    · exact place_in hz g g' w
    · rw [show isPl z = false from decide_eq_false (by omega)]
      exact place_no1 (hz.order FV.c0) (cmp_geq (by omega)) (by rw [hz.order FV.c40, cmp_gt g]) w
  · have a := hs.order FV.c0 (by omega) (by omega) (by omega)
    have b := hs.order FV.c40 (by omega) (by omega) (by omega)
    cases s
    · exact place_no1 a rfl b w
    · exact place_no0 a w
theorem selection_any {a b : Nat} {r q : Bool} (ha : PlB a r) (hb : PlB b q) (w : World) : Calls Try.prog 23 #[.complex .f64 a b] w fun e w' => e = .returned (.bool (r && q)) ∧ w' = w := by
  have GA := Lib.hid (fun w => place_any ha w)
  have GB := Lib.hid (fun w => place_any hb w)
  clear ha hb
  go_enter Try.func23, Try.ntmps23
  go_wp2_with fail
  refine (GA.out _).mono ?_
  rintro e w' ⟨rfl, rfl⟩
  cases r
  · go_wp2
    go_ret
    exact ⟨rfl, rfl⟩
  · go_wp2_with fail
    refine (GB.out _).mono ?_
    rintro e w' ⟨rfl, rfl⟩
    go_wp2
    go_ret
    exact ⟨rfl, rfl⟩
end Go.Proofs.Ytigmgnoiinljpaa
