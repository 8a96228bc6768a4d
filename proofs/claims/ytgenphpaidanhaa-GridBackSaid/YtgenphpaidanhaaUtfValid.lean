/- The contract of utf.Valid, over any bytes, texts or not. Condition: no more than 2^40 bytes. -/
import Derived.Test.YtgenphpaidanhaaUtfShow
namespace Go.Proofs.Ytgenphpaidanhaa
open Go.RowKit Go.Deep

theorem show_none (a b : Int) (w : World) : Calls Try.prog 28 (#[.int .i64 a, .int .i64 b] ++ #[]) w fun e w' => e = .returned (.tuple #[]) ∧ w = w' := by
  go_enter Try.func28, Try.ntmps28
  go_wp2
  go_end0
  exact ⟨rfl, rfl⟩
theorem utfValid_yes {l vs : List Nat} (h : V l vs) (hl : l.length ≤ 1099511627776) (w : World) :
    Calls Try.prog 20 #[.string (bstr l)] w fun e w' => e = .returned (.bool true) ∧ w = w' := by
  have HW := Lib.hid (utfWalk_any 28 (enters_of_func Try.func28 (by kernel_rfl) rfl) #[] l hl (by rw [← h.bytes]; exact E_lt h.may) (fun _ x => x = w)
    (fun vs v w1 hw _ _ => by subst hw; exact (show_none _ _ w1).mono (fun e w' h => ⟨h.1, h.2.symm⟩)) w rfl)
  go_enter Try.func20, Try.ntmps20
  go_wp2_with fail
  refine HW.out.mono ?_
  rintro e w' (⟨ws, hv, rfl, hw⟩ | ⟨hn, _, _⟩)
  · subst hw
    go_wp2
    go_ret
    exact ⟨rfl, rfl⟩
  · exact absurd ⟨vs, h⟩ hn
theorem utfValid_no {l : List Nat} (h : ¬ ∃ vs, V l vs) (hb : ∀ x ∈ l, x < 256) (hl : l.length ≤ 1099511627776) (w : World) :
    Calls Try.prog 20 #[.string (bstr l)] w fun e w' => e = .returned (.bool false) ∧ w = w' := by
  have HW := Lib.hid (utfWalk_any 28 (enters_of_func Try.func28 (by kernel_rfl) rfl) #[] l hl hb (fun _ x => x = w)
    (fun vs v w1 hw _ _ => by subst hw; exact (show_none _ _ w1).mono (fun e w' h => ⟨h.1, h.2.symm⟩)) w rfl)
  go_enter Try.func20, Try.ntmps20
  go_wp2_with fail
  refine HW.out.mono ?_
  rintro e w' (⟨ws, hv, _, hw⟩ | ⟨hn, rfl, _, hw⟩)
  · exact absurd ⟨ws, hv⟩ h
  · subst hw
    go_wp2
    go_ret
    exact ⟨rfl, rfl⟩
end Go.Proofs.Ytgenphpaidanhaa
