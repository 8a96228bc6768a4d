/- What was done to whom, as an argument. No condition. (Merged of 2 texts.) -/
import Derived.Test.YtnadhpajelkngaaKCells
import Derived.Test.YtnadhpajelkngaaKOne
/- Nodes, and acts, as arguments. No condition. -/
namespace Go.Proofs.Ytnadhpajelkngaa
open Go.ChangeShapes Go.WideShapes Go.ChangeAt Go.RowKit
variable {H : Type} {enc : TypeId × Value → H} {w : World}

set_option maxRecDepth 100000 in
theorem open_acts {base : Nat} {v : Value} {d : DataW H} {p : List MemPlace} (hv : Value.okWide Try.prog w .any base 32 v) (h : DataW.Trod enc Try.prog w 0 (fun _ => true) true 32 v d p) (hlt : ∀ x ∈ p, x.block < w.heap.size) :
    ∃ A l c, v = .slice A (List.length l) c ∧ ActsAt w A l ∧ (∀ y ∈ l, y.Good) ∧ l.length ≤ c ∧ c ≤ maxLen := by
  obtain ⟨a0, len, cap, rfl⟩ := okWide_slice Try.underlying32 hv
  obtain ⟨fuel, hf⟩ := h
  obtain ⟨A, l, c, e, h1⟩ := open_acts_cells hf hlt
  simp only [Value.cells, List.cons.injEq, and_true] at e
  exact ⟨A, l, c, e, h1⟩
end Go.Proofs.Ytnadhpajelkngaa

/- What was done to whom, as an argument. No condition. -/
namespace Go.Proofs.Ytnadhpajelkngaa
open Go.ChangeShapes Go.WideShapes Go.ChangeAt Go.RowKit
variable {H : Type} {enc : TypeId × Value → H} {w : World}

set_option maxRecDepth 100000 in
theorem open_ones {base : Nat} {v : Value} {d : DataW H} {p : List MemPlace} (hv : Value.okWide Try.prog w .any base 44 v) (h : DataW.Trod enc Try.prog w 0 (fun _ => true) true 44 v d p) (hlt : ∀ x ∈ p, x.block < w.heap.size) :
    ∃ A l c, v = .slice A (List.length l) c ∧ OnesAt w A l ∧ (∀ y ∈ l, y.Good) ∧ l.length ≤ c ∧ c ≤ maxLen := by
  obtain ⟨a0, len, cap, rfl⟩ := okWide_slice Try.underlying44 hv
  obtain ⟨fuel, hf⟩ := h
  obtain ⟨A, l, c, e, h1⟩ := open_ones_cells hf hlt
  simp only [Value.cells, List.cons.injEq, and_true] at e
  exact ⟨A, l, c, e, h1⟩
end Go.Proofs.Ytnadhpajelkngaa
