/- grid's behind: the point behind a code point. Condition: lines and columns below 2^41. -/
import Derived.Test.YtgenphpaidanhaaCurOps
namespace Go.Proofs.Ytgenphpaidanhaa
open Go.RowKit Go.Deep Ieee
attribute [-go_sem] binOp_float_cmp_eql binOp_float_cmp_neq binOp_float_cmp_lss binOp_float_cmp_leq binOp_float_cmp_gtr binOp_float_cmp_geq run_eql_complex run_neq_complex

/-- The bits are a point of whole numbers: its column and its line. -/
def PtV (a b : Nat) (x y : Int) : Prop := FV a (16 * x) ∧ FV b (16 * y)
theorem behind_yes {a b : Nat} {x y : Int} (h : PtV a b x y) (h0 : 0 ≤ y) (h1 : y ≤ 1099511627776) (w : World) :
    Calls Try.prog 33 #[.complex .f64 a b, .int .i32 10] w fun e w' => (∃ c d, e = .returned (.complex .f64 c d) ∧ PtV c d 0 (y + 1)) ∧ w' = w := by
  obtain ⟨c, d, hs, hc, hd⟩ := cadd_fv FV.c0 h.2 FV.c0 FV.c1 (by omega) (by omega)
  have hop := rAdd hs
  have HR : Hid (PtV c d 0 (y + 1)) := ⟨hc, by rw [show 16 * (y + 1) = 16 * y + 16 by omega]; exact hd⟩
  clear hs hc hd h h0 h1
  go_enter Try.func33, Try.ntmps33
  go_wp2_with (simp only [hop])
  all_goals (go_ret; exact ⟨⟨c, d, rfl, HR.out⟩, rfl⟩)
theorem behind_no {a b : Nat} {x y : Int} (h : PtV a b x y) (h0 : 0 ≤ x) (h1 : x ≤ 1099511627776) (h2 : 0 ≤ y) (h3 : y ≤ 1099511627776) {v : Nat} (hv : ¬ v = 10) (w : World) :
    Calls Try.prog 33 #[.complex .f64 a b, .int .i32 (v : Int)] w fun e w' => (∃ c d, e = .returned (.complex .f64 c d) ∧ PtV c d (x + 1) y) ∧ w' = w := by
  obtain ⟨c, d, hs, hc, hd⟩ := cadd_fv h.1 h.2 FV.c1 FV.c0 (by omega) (by omega)
  have hop := rAdd hs
  have HR : Hid (PtV c d (x + 1) y) := ⟨by rw [show 16 * (x + 1) = 16 * x + 16 by omega]; exact hc, by rw [Int.add_zero] at hd; exact hd⟩
  have hne : ((v : Int) == 10) = false := beq_eq_false_iff_ne.2 (by omega)
  clear hs hc hd h h0 h1 h2 h3 hv
  go_enter Try.func33, Try.ntmps33
  go_wp2_with (simp only [hop])
  all_goals (go_ret; exact ⟨⟨c, d, rfl, HR.out⟩, rfl⟩)
end Go.Proofs.Ytgenphpaidanhaa
