/- []byte(s): the same bytes, in new memory. No condition. -/
import Derived.Test.YtmedaimndaaiiaaMBase
import Derived.Laws.IdiomStrings
import Derived.Laws.Cover3
/- []byte(s): the same bytes, in new memory. No condition. -/
namespace Go.Proofs.Ytmedaimndaaiiaa
open Go.RowKit Go.Deep

theorem eql_bytes_nil (A : Option Addr) (n c : Nat) (w : World) : (binOp .eql 40 (.slice A n c) (.slice none 0 0)).run Try.prog w = .ok (.bool A.isNone) w := by
  simp only [binOp]
  simp [run_equal_slice_nil w 40 5 A n c Try.underlying40]
theorem conv_str_cap (l : List Nat) (hb : ∀ x ∈ l, x < 256) (w : World) : ∃ cap w', (convert 9 40 (.string (bstr l))).run Try.prog w = .ok (.slice (some ⟨w.heap.size, 0, none⟩) l.length cap) w' ∧
    BytesAt w' (some ⟨w.heap.size, 0, none⟩) l ∧ Below w.heap.size w w' ∧ l.length ≤ cap := by
  have h := run_bytes_of_string (P := Try.prog) w 9 40 5 (bstr l) Try.underlying9 Try.underlying40 Try.underlying5
  rw [bstr_size] at h
  refine ⟨_, _, h, ?_, ?_, grownCap_ge _ _ _ _⟩
  · refine BytesAt.lit (w := w.drew) (fun j x hj => ?_) rfl
    have hjl : j < l.length := (List.getElem?_eq_some_iff.1 hj).1
    have hx := hb x (List.mem_of_getElem? hj)
    have h1 : (bstr l).data[j]? = some (UInt8.ofNat x) := by
      rw [← Array.getElem?_toList, bstr_data, List.getElem?_map, hj]; rfl
    obtain ⟨hd, h2⟩ := Array.getElem?_eq_some_iff.1 h1
    rw [bytesRow_at _ _ j hd, h2]
    simp
    omega
  · exact ((Below.refl _ _).drew).alloc (Nat.le_refl _) _
theorem conv_str (l : List Nat) (hb : ∀ x ∈ l, x < 256) (w : World) : ∃ cap w', (convert 9 40 (.string (bstr l))).run Try.prog w = .ok (.slice (some ⟨w.heap.size, 0, none⟩) l.length cap) w' ∧
    BytesAt w' (some ⟨w.heap.size, 0, none⟩) l ∧ Below w.heap.size w w' := by
  obtain ⟨cap, w', h1, h2, h3, _⟩ := conv_str_cap l hb w
  exact ⟨cap, w', h1, h2, h3⟩
end Go.Proofs.Ytmedaimndaaiiaa
