/- Whether a text is empty, as the walk asks it. No condition. -/
import Derived.Test.YtfbkdabnbddgpaaBy
namespace Go.Proofs.Ytfbkdabnbddgpaa

theorem toList_nil : (bstr []).toList = [] := by
  rw [ByteArray.toList, ByteArray.toList.loop, if_neg (by rw [bstr_size]; simp)]
  rfl
theorem empty_yes : (bstr []).toList.isEmpty = true := by rw [toList_nil]; rfl
theorem empty_no {l : List Nat} (h : l ≠ []) : (bstr l).toList.isEmpty = false := by
  cases e : (bstr l).toList.isEmpty with
  | false => rfl
  | true =>
    exfalso
    have h1 : (bstr l).toList = [] := List.isEmpty_iff.1 e
    have h2 : (bstr []).toList = [] := toList_nil
    have h3 : ((bstr l).toList == (bstr []).toList) = false := bstr_neq fun g => h (by
      have := congrArg ByteArray.size g
      rw [bstr_size, bstr_size] at this
      exact List.length_eq_zero_iff.1 this)
    rw [h1, h2] at h3
    simp at h3
end Go.Proofs.Ytfbkdabnbddgpaa
