/- The contract of the document's own Valid, over any bytes. Condition: no more than 2^40 bytes. -/
import Derived.Test.YtgenphpaidanhaaRefUtf
import Derived.Test.YtgenphpaidanhaaValidB
namespace Go.Proofs.Ytgenphpaidanhaa
open Go.RowKit Go.Deep

theorem refValid_any (l : List Nat) (hb : ∀ x ∈ l, x < 256) (hl : l.length ≤ 1099511627776) (w : World) :
    Calls Try.prog 12 #[.string (bstr l)] w fun e w' => e = .returned (.bool (validB l)) ∧ Below w.heap.size w w' := by
  have HP := Lib.hid (refPoints_any l hb hl w)
  obtain ⟨F, HF⟩ : ∃ F, Hid (validB l = F) := ⟨_, rfl⟩
  rw [HF.out]
  go_enter Try.func12, Try.ntmps12
  go_wp2_with fail
  refine HP.out.mono ?_
  rintro e w1 ⟨⟨vs, hv, A, c, rfl, _⟩ | ⟨hn, rfl⟩, hbel⟩
  · have e1 : Hid (F = true) := by show F = true; rw [← HF.out]; exact validB_yes hv
    clear hv
    go_wp2
    go_ret
    exact ⟨by rw [e1.out]; rfl, hbel⟩
  · have e1 : Hid (F = false) := by show F = false; rw [← HF.out]; exact validB_no hn
    clear hn
    go_wp2
    go_ret
    exact ⟨by rw [e1.out]; rfl, hbel⟩
end Go.Proofs.Ytgenphpaidanhaa
