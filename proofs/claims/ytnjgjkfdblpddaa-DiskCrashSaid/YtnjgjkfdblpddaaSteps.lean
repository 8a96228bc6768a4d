/- The steps that the statements on disk are called with: what they hold, as which cells they lie, and how such an argument is opened. Condition: no slice is longer than memory. -/
import Derived.Test.YtnjgjkfdblpddaaRecs
namespace Go.Proofs.Ytnjgjkfdblpddaa
open Go.ChangeShapes Go.WideShapes Go.ChangeAt Go.RowKit Go.Deep

/-- A step. -/
structure StepV where
  kind : Int
  at_ : Int
  n : Int
instance : Inhabited StepV := ⟨⟨0, 0, 0⟩⟩
def StepV.Good (c : StepV) : Prop := Fit64 c.kind ∧ Fit64 c.at_ ∧ Fit64 c.n
def stepCells (c : StepV) : List Value := [.int .i64 c.kind, .int .i64 c.at_, .int .i64 c.n]
theorem stepCells_length (c : StepV) : (stepCells c).length = 3 := rfl
def StepsAt (w : World) (A : Option Addr) (l : List StepV) : Prop := CellsAt w A (l.flatMap stepCells)
theorem StepsAt.below {w w' : World} {A : Option Addr} {l : List StepV} (h : StepsAt w A l) (hb : Below w.heap.size w w') : StepsAt w' A l := CellsAt.below h hb
theorem StepsAt.form {w : World} {A : Option Addr} {l : List StepV} (h : StepsAt w A l) (h0 : 0 < l.length) : ∃ b off, A = some ⟨b, off, none⟩ ∧ b < w.heap.size :=
  CellsAt.form h (by intro e; have := congrArg List.length e; rw [flat_length stepCells 3 stepCells_length] at this; simp at this; omega)
theorem StepsAt.at_ {w : World} {b off : Nat} {l : List StepV} (h : StepsAt w (some ⟨b, off, none⟩) l) {i : Nat} (hi : i < l.length) :
    w.cell? ⟨b, off + i * 3, none⟩ = some (.int .i64 l[i].kind) ∧ w.cell? ⟨b, off + i * 3 + 1, none⟩ = some (.int .i64 l[i].at_) ∧ w.cell? ⟨b, off + i * 3 + 2, none⟩ = some (.int .i64 l[i].n) := by
  refine ⟨?_, ?_, ?_⟩
  · exact CellsAt.cell h (j := i * 3 + 0) (by rw [flat_get stepCells 3 stepCells_length l i hi 0 (by omega)]; rfl)
  · rw [Nat.add_assoc]; exact CellsAt.cell h (by rw [flat_get stepCells 3 stepCells_length l i hi 1 (by omega)]; rfl)
  · rw [Nat.add_assoc]; exact CellsAt.cell h (by rw [flat_get stepCells 3 stepCells_length l i hi 2 (by omega)]; rfl)
set_option maxRecDepth 100000 in
theorem open_steps {H : Type} {enc : TypeId × Value → H} {w : World} {base : Nat} {v : Value} {d : DataW H} {p : List MemPlace} (hv : Value.okWide Try.prog w .any base 22 v) (h : DataW.Trod enc Try.prog w 0 (fun _ => true) true 22 v d p) (hlt : ∀ x ∈ p, x.block < w.heap.size) :
    ∃ A l c, v = .slice A (List.length l) c ∧ StepsAt w A l ∧ (∀ y ∈ l, y.Good) ∧ l.length ≤ c ∧ c ≤ maxLen := by
  obtain ⟨a0, len, cap0, rfl⟩ := okWide_slice Try.underlying22 hv
  obtain ⟨fuel, hfu⟩ := h
  obtain ⟨A, n, cap, m, hcs, hn, hcap, hform, hrec⟩ := open_records (k := 3) Try.underlying22 Try.underlying34 (by kernel_rfl) hfu hlt
  have each : ∀ i, i < n → ∃ y : StepV, y.Good ∧ ∀ b off, A = some ⟨b, off, none⟩ → ∀ j, j < 3 → w.cell? ⟨b, off + (i * 3 + j), none⟩ = (stepCells y)[j]? := by
    intro i hi
    obtain ⟨R, hR, hcell, hf⟩ := hrec i hi
    obtain ⟨y0, h0, _⟩ := hf 0 _ rfl
    obtain ⟨y1, h1, _⟩ := hf 1 _ rfl
    obtain ⟨y2, h2, _⟩ := hf 2 _ rfl
    obtain ⟨k0, e0, w0⟩ := rec_int (o := 0) h0
    obtain ⟨k1, e1, w1⟩ := rec_int (o := 1) h1
    obtain ⟨k2, e2, w2⟩ := rec_int (o := 2) h2
    match R, hR with
    | [r0, r1, r2], _ =>
      simp only [List.getElem?_cons_zero, List.getElem?_cons_succ, Option.some.injEq] at e0 e1 e2
      subst e0 e1 e2
      exact ⟨⟨k0, k1, k2⟩, ⟨w0, w1, w2⟩, hcell⟩
  obtain ⟨f, hf⟩ := choose_lt each
  simp only [Value.cells, List.cons.injEq, and_true] at hcs
  refine ⟨A, (List.range n).map f, cap, by rw [hcs]; simp, cellsAt_of stepCells 3 (by omega) stepCells_length f hform (fun i hi => (hf i hi).2), ?_, by simpa using hn, hcap⟩
  intro y hy
  obtain ⟨i, hi, rfl⟩ := List.mem_map.1 hy
  exact (hf i (List.mem_range.1 hi)).1
end Go.Proofs.Ytnjgjkfdblpddaa
