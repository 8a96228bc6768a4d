/- What tells whether a float is a place, and whether a complex number is a selection. Condition: each is a number, below 2^53 sixteenths, or far from nought. -/
import Derived.Test.YtgenphpaidanhaaFloatBig
import Derived.Test.YtgenphpaidanhaaBy
import Derived.Laws.Externs
import Derived.WalkLawsBesides
import Derived.Lib.Hide
namespace Go.Proofs.Ytgenphpaidanhaa
open Go.RowKit Go.Deep Ieee
attribute [-go_sem] binOp_float_cmp_eql binOp_float_cmp_neq binOp_float_cmp_lss binOp_float_cmp_leq binOp_float_cmp_gtr binOp_float_cmp_geq run_eql_complex run_neq_complex

/-- z sixteenths are a place. -/
def isPl (z : Int) : Bool := decide (0 ≤ z ∧ z ≤ 17592186044416 ∧ z % 16 = 0)
/-- The float with bits b is a place (r), or none, and that can be told. -/
def PlB (b : Nat) (r : Bool) : Prop := (∃ z, FV b z ∧ z.natAbs < 9007199254740992 ∧ r = isPl z) ∨ (r = false ∧ ∃ s, BV b s 45 90)
theorem isPl_yes {n : Int} (h0 : 0 ≤ n) (h1 : n ≤ 1099511627776) : isPl (16 * n) = true := by unfold isPl; exact decide_eq_true (by omega)
theorem isPl_no {n : Int} (h : ¬ (0 ≤ n ∧ n ≤ 1099511627776)) : isPl (16 * n) = false := by unfold isPl; exact decide_eq_false (by omega)
theorem PlB.yes {b : Nat} {n : Int} (h : FV b (16 * n)) (h0 : 0 ≤ n) (h1 : n ≤ 1099511627776) : PlB b true := .inl ⟨_, h, by omega, (isPl_yes h0 h1).symm⟩
theorem PlB.no {b : Nat} {n : Int} (h : FV b (16 * n)) (h0 : n.natAbs < 562949953421312) (h1 : ¬ (0 ≤ n ∧ n ≤ 1099511627776)) : PlB b false := .inl ⟨_, h, by omega, (isPl_no h1).symm⟩
theorem PlB.ofInt {n : Int} (hn : -9223372036854775808 ≤ n) (hn2 : n ≤ 9223372036854775807) : PlB (floatOfInt .f64 n) (decide (0 ≤ n ∧ n ≤ 1099511627776)) := by
  by_cases h : n.natAbs < 562949953421312
  · refine .inl ⟨16 * n, FV.ofInt h, by omega, ?_⟩
    by_cases g : 0 ≤ n ∧ n ≤ 1099511627776
    · rw [decide_eq_true g, isPl_yes g.1 g.2]
    · rw [decide_eq_false g, isPl_no g]
  · exact .inr ⟨decide_eq_false (by omega), _, (BV.ofInt (by omega) (by omega)).mono (by omega) (by omega)⟩

theorem integral_number (nm : String) (way : Toward) {x : Nat} {s : Bool} {m : Nat} {e : Int} (h : double.read x = .number s m e) :
    Extern.MathFloor.toIntegral nm way #[.float .f64 x] = pure (.float .f64 (double.write ((double.read x).integral way))) := by
  have m2 : ∀ (f : Nat → Sem Value) (g : Array Value → Sem Value), Extern.MathFloor.toIntegral.match_2 (fun _ => Sem Value) #[.float .f64 x] f g = f x := fun _ _ => rfl
  have hd : FloatKind.f64.decode x = .number s m e := h
  delta Extern.MathFloor.toIntegral
  rw [m2, hd, h]
  rfl
theorem run_trunc {x : Nat} {s : Bool} {m : Nat} {e : Int} (h : double.read x = .number s m e) (w : World) :
    (callFunc 38 #[.float .f64 x]).run Try.prog w = .ok (.value (.float .f64 (double.write ((double.read x).integral .zero)))) w := by
  rw [run_callFunc_extern Try.func38 (by kernel_rfl) (by kernel_rfl) (by kernel_rfl) (by kernel_rfl : Extern.find _ = some (Extern.MathFloor.toIntegral "math.archTrunc" .zero))]
  rw [integral_number "math.archTrunc" .zero h]
  rfl
theorem mathTrunc_any {x r : Nat} {s : Bool} {m : Nat} {e : Int} (h : double.read x = .number s m e) (hr : double.write ((double.read x).integral .zero) = r) (w : World) :
    Calls Try.prog 35 #[.float .f64 x] w fun e w' => e = .returned (.float .f64 r) ∧ w' = w := by
  have hop := fun w => run_trunc h w
  rw [hr] at hop
  go_enter Try.func35, Try.ntmps35
  go_wp2_with (simp only [hop])
  all_goals (go_ret; exact ⟨rfl, rfl⟩)
theorem order_fv {a b : Nat} {x y : Int} (ha : FV a x) (hb : FV b y) : FloatKind.f64.format.order a b = some (compare x y) := FV.order ha hb
theorem fGeq {a b : Nat} {o : Ordering} (h : double.order a b = some o) {v : Bool} (hv : (o == .gt || o == .eq) = v) (t : TypeId) (w : World) : (binOp .geq t (.float .f64 a) (.float .f64 b)).run Try.prog w = .ok (.bool v) w := by
  have h' : FloatKind.f64.format.order a b = some o := h
  rw [binOp_float_cmp_geq, h', ← hv]
  cases o <;> rfl
theorem fLeq {a b : Nat} {o : Ordering} (h : double.order a b = some o) {v : Bool} (hv : (o == .lt || o == .eq) = v) (t : TypeId) (w : World) : (binOp .leq t (.float .f64 a) (.float .f64 b)).run Try.prog w = .ok (.bool v) w := by
  have h' : FloatKind.f64.format.order a b = some o := h
  rw [binOp_float_cmp_leq, h', ← hv]
  cases o <;> rfl
theorem fEql {a b : Nat} {o : Ordering} (h : double.order a b = some o) {v : Bool} (hv : (o == .eq) = v) (t : TypeId) (w : World) : (binOp .eql t (.float .f64 a) (.float .f64 b)).run Try.prog w = .ok (.bool v) w := by
  have h' : FloatKind.f64.format.order a b = some o := h
  rw [binOp_float_cmp_eql, h', ← hv]
  cases o <;> rfl
theorem fGtr {a b : Nat} {o : Ordering} (h : double.order a b = some o) {v : Bool} (hv : (o == .gt) = v) (t : TypeId) (w : World) : (binOp .gtr t (.float .f64 a) (.float .f64 b)).run Try.prog w = .ok (.bool v) w := by
  have h' : FloatKind.f64.format.order a b = some o := h
  rw [binOp_float_cmp_gtr, h', ← hv]
  cases o <;> rfl
theorem cmp_lt {x y : Int} (h : x < y) : compare x y = .lt := by show compareOfLessAndEq x y = _; unfold compareOfLessAndEq; rw [if_pos h]
theorem cmp_eq {x y : Int} (h : x = y) : compare x y = .eq := by show compareOfLessAndEq x y = _; unfold compareOfLessAndEq; rw [if_neg (by omega), if_pos h]
theorem cmp_gt {x y : Int} (h : y < x) : compare x y = .gt := by show compareOfLessAndEq x y = _; unfold compareOfLessAndEq; rw [if_neg (by omega), if_neg (by omega)]
theorem cmp_geq {x y : Int} (h : y ≤ x) : (compare x y == .gt || compare x y == .eq) = true := by
  rcases Int.lt_or_eq_of_le h with h | h
  · rw [cmp_gt h]; rfl
  · rw [cmp_eq h.symm]; rfl
theorem cmp_leq {x y : Int} (h : x ≤ y) : (compare x y == .lt || compare x y == .eq) = true := by
  rcases Int.lt_or_eq_of_le h with h | h
  · rw [cmp_lt h]; rfl
  · rw [cmp_eq h]; rfl
end Go.Proofs.Ytgenphpaidanhaa
