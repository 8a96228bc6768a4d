/- The contract of the document's own Count, over texts. Condition: no more than 2^40 bytes. -/
import Derived.Test.YtgenphpaidanhaaRefUtf
namespace Go.Proofs.Ytgenphpaidanhaa
open Go.RowKit Go.Deep

theorem refCount_yes {l vs : List Nat} (h : V l vs) (hl : l.length ≤ 1099511627776) (w : World) :
    Calls Try.prog 16 #[.string (bstr l)] w fun e w' => e = .returned (.int .i64 ((vs.length : Nat) : Int)) ∧ Below w.heap.size w w' := by
  have HP := Lib.hid (refPoints_any l (by rw [← h.bytes]; exact E_lt h.may) hl w)
  have HL : Hid (vs.length ≤ 1099511627776) := by show vs.length ≤ _; have := h.length_le; omega
  have hl2 := HL.out
  have H := Lib.hid h; clear h
  go_enter Try.func16, Try.ntmps16
  go_wp2_with fail
  refine HP.out.mono ?_
  rintro e w1 ⟨⟨ws, hv, A, c, rfl, _⟩ | ⟨hn, _⟩, hbel⟩
  · obtain rfl := hv.uniq H.out
    rw [nz_length]
    go_wp2
    go_ret
    exact ⟨rfl, hbel⟩
  · exact absurd ⟨vs, H.out⟩ hn
end Go.Proofs.Ytgenphpaidanhaa
