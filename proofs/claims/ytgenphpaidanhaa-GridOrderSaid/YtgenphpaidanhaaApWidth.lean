/- apply's width: how many bytes the first code points of a text have. Conditions: a text of no more than 2^40 bytes, that has as many code points. -/
import Derived.Test.YtgenphpaidanhaaOpCount
import Derived.Test.YtgenphpaidanhaaUtfRel
namespace Go.Proofs.Ytgenphpaidanhaa
open Go.RowKit Go.Deep

theorem E_split (vs : List Nat) (k : Nat) : E vs = E (vs.take k) ++ E (vs.drop k) := by rw [← E_append, List.take_append_drop]
theorem E_drop (vs : List Nat) (k : Nat) : (E vs).drop (E (vs.take k)).length = E (vs.drop k) := by
  conv => lhs; rw [E_split vs k]
  exact List.drop_left' rfl
theorem lse_text {v : Nat} (h : May v) (r : List Nat) : lseStep (enc v ++ r) = (enc v).length := by rw [lseStep, st_enc h]
theorem E_take_len (vs : List Nat) (k : Nat) : (E (vs.take k)).length ≤ (E vs).length := by
  conv => rhs; rw [E_split vs k]
  rw [List.length_append]; omega

end Go.Proofs.Ytgenphpaidanhaa
