/- Whether bytes are a text, as a bool. No condition. -/
import Derived.Test.YtgenphpaidanhaaUtfMath
namespace Go.Proofs.Ytgenphpaidanhaa

noncomputable def validB (l : List Nat) : Bool := @decide (∃ vs, V l vs) (Classical.propDecidable _)
theorem validB_yes {l vs : List Nat} (h : V l vs) : validB l = true := by unfold validB; exact @decide_eq_true _ (Classical.propDecidable _) ⟨vs, h⟩
theorem validB_no {l : List Nat} (h : ¬ ∃ vs, V l vs) : validB l = false := by unfold validB; exact @decide_eq_false _ (Classical.propDecidable _) h
end Go.Proofs.Ytgenphpaidanhaa
