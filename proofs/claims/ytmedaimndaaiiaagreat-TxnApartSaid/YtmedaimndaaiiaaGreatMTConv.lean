/- []byte(s): the same bytes, in new memory. No condition. -/
import Derived.Test.YtmedaimndaaiiaaGreatMBase
import Derived.Laws.IdiomStrings
import Derived.Laws.Cover3
/- []byte(s): the same bytes, in new memory. No condition. -/
namespace Go.Proofs.YtmedaimndaaiiaaGreat
open Go.RowKit Go.Deep

theorem eql_bytes_nil (A : Option Addr) (n c : Nat) (w : World) : (binOp .eql 101 (.slice A n c) (.slice none 0 0)).run Tryz.prog w = .ok (.bool A.isNone) w := by
  simp only [binOp]
  simp [run_equal_slice_nil w 101 5 A n c Tryz.underlying101]
theorem conv_str_cap (l : List Nat) (hb : ∀ x ∈ l, x < 256) (w : World) : ∃ cap w', (convert 9 101 (.string (bstr l))).run Tryz.prog w = .ok (.slice (some ⟨w.heap.size, 0, none⟩) l.length cap) w' ∧
    BytesAt w' (some ⟨w.heap.size, 0, none⟩) l ∧ Below w.heap.size w w' ∧ l.length ≤ cap := by
  have h := run_bytes_of_string (P := Tryz.prog) w 9 101 5 (bstr l) Tryz.underlying9 Tryz.underlying101 Tryz.underlying5
  rw [bstr_size] at h
  refine ⟨_, _, h, ?_, ?_, grownCap_ge _ _ _ _⟩
  · refine BytesAt.lit (w := w.drew) (fun j x hj => ?_) rfl
    have hjl : j < l.length := (List.getElem?_eq_some_iff.1 hj).1
    have hx := hb x (List.mem_of_getElem? hj)
    have h1 : (bstr l).data[j]? = some (UInt8.ofNat x) := by
      rw [← Array.getElem?_toList, bstr_data, List.getElem?_map, hj]; rfl
    obtain ⟨hd, h2⟩ := Array.getElem?_eq_some_iff.1 h1
    rw [bytesRow_at _ _ j hd, h2]
    simp
    omega
  · exact ((Below.refl _ _).drew).alloc (Nat.le_refl _) _
theorem conv_str (l : List Nat) (hb : ∀ x ∈ l, x < 256) (w : World) : ∃ cap w', (convert 9 101 (.string (bstr l))).run Tryz.prog w = .ok (.slice (some ⟨w.heap.size, 0, none⟩) l.length cap) w' ∧
    BytesAt w' (some ⟨w.heap.size, 0, none⟩) l ∧ Below w.heap.size w w' := by
  obtain ⟨cap, w', h1, h2, h3, _⟩ := conv_str_cap l hb w
  exact ⟨cap, w', h1, h2, h3⟩
end Go.Proofs.YtmedaimndaaiiaaGreat
