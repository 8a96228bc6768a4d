/- Parts of edits that come in: what they hold, as which cells they lie, and how such arguments are opened. Condition: no slice and no text is longer than memory. -/
import Derived.Test.YtfbkdabnbddgpaaRecs
namespace Go.Proofs.Ytfbkdabnbddgpaa
open Go.ChangeShapes Go.WideShapes Go.ChangeAt Go.RowKit Go.Deep

/-- A part of an edit. -/
structure CompV where
  kind : Int
  n : Int
  text : List Nat
instance : Inhabited CompV := ⟨⟨0, 0, []⟩⟩
def CompV.Good (c : CompV) : Prop := Fit64 c.kind ∧ Fit64 c.n ∧ Bytes c.text
def compCells (c : CompV) : List Value := [.int .i64 c.kind, .int .i64 c.n, .string (bstr c.text)]
theorem compCells_length (c : CompV) : (compCells c).length = 3 := rfl
def CompsAt (w : World) (A : Option Addr) (l : List CompV) : Prop := CellsAt w A (l.flatMap compCells)
theorem CompsAt.below {w w' : World} {A : Option Addr} {l : List CompV} (h : CompsAt w A l) (hb : Below w.heap.size w w') : CompsAt w' A l := CellsAt.below h hb
theorem CompsAt.drew {w : World} {A : Option Addr} {l : List CompV} (h : CompsAt w A l) : CompsAt w.drew A l := CellsAt.drew h
theorem CompsAt.form {w : World} {A : Option Addr} {l : List CompV} (h : CompsAt w A l) (h0 : 0 < l.length) : ∃ b off, A = some ⟨b, off, none⟩ ∧ b < w.heap.size :=
  CellsAt.form h (by intro e; have := congrArg List.length e; rw [flat_length compCells 3 compCells_length] at this; simp at this; omega)
theorem CompsAt.at_ {w : World} {b off : Nat} {l : List CompV} (h : CompsAt w (some ⟨b, off, none⟩) l) {i : Nat} (hi : i < l.length) :
    w.cell? ⟨b, off + i * 3, none⟩ = some (.int .i64 l[i].kind) ∧ w.cell? ⟨b, off + i * 3 + 1, none⟩ = some (.int .i64 l[i].n) ∧ w.cell? ⟨b, off + i * 3 + 2, none⟩ = some (.string (bstr l[i].text)) := by
  refine ⟨?_, ?_, ?_⟩
  · exact CellsAt.cell h (j := i * 3 + 0) (by rw [flat_get compCells 3 compCells_length l i hi 0 (by omega)]; rfl)
  · rw [Nat.add_assoc]; exact CellsAt.cell h (by rw [flat_get compCells 3 compCells_length l i hi 1 (by omega)]; rfl)
  · rw [Nat.add_assoc]; exact CellsAt.cell h (by rw [flat_get compCells 3 compCells_length l i hi 2 (by omega)]; rfl)

section
variable {H : Type} {enc : TypeId × Value → H} {w : World}

set_option maxRecDepth 100000 in
theorem open_comps_cells {fuel : Nat} {cs : List Value} {x : DataW H × List MemPlace} (h : DataW.trod enc Try.prog w 0 (fun _ => true) true fuel 22 cs = some x) (hlt : ∀ p ∈ x.2, p.block < w.heap.size) :
    ∃ A l c, cs = [.slice A (List.length l) c] ∧ CompsAt w A l ∧ (∀ y ∈ l, y.Good) ∧ l.length ≤ c ∧ c ≤ maxLen := by
  obtain ⟨A, n, cap, m, rfl, hn, hcap, hform, hrec⟩ := open_records (k := 3) Try.underlying22 Try.underlying45 (by kernel_rfl) h hlt
  have each : ∀ i, i < n → ∃ y : CompV, y.Good ∧ ∀ b off, A = some ⟨b, off, none⟩ → ∀ j, j < 3 → w.cell? ⟨b, off + (i * 3 + j), none⟩ = (compCells y)[j]? := by
    intro i hi
    obtain ⟨R, hR, hcell, hf⟩ := hrec i hi
    obtain ⟨y0, h0, _⟩ := hf 0 _ rfl
    obtain ⟨y1, h1, _⟩ := hf 1 _ rfl
    obtain ⟨y2, h2, _⟩ := hf 2 _ rfl
    obtain ⟨k0, e0, w0⟩ := rec_int (o := 0) h0
    obtain ⟨k1, e1, w1⟩ := rec_int (o := 1) h1
    obtain ⟨l2, e2, w2⟩ := rec_text (o := 2) h2
    match R, hR with
    | [r0, r1, r2], _ =>
      simp only [List.getElem?_cons_zero, List.getElem?_cons_succ, Option.some.injEq] at e0 e1 e2
      subst e0 e1 e2
      exact ⟨⟨k0, k1, l2⟩, ⟨w0, w1, w2⟩, hcell⟩
  obtain ⟨f, hf⟩ := choose_lt each
  refine ⟨A, (List.range n).map f, cap, by simp, cellsAt_of compCells 3 (by omega) compCells_length f hform (fun i hi => (hf i hi).2), ?_, by simpa using hn, hcap⟩
  intro y hy
  obtain ⟨i, hi, rfl⟩ := List.mem_map.1 hy
  exact (hf i (List.mem_range.1 hi)).1
set_option maxRecDepth 100000 in
theorem open_comps {base : Nat} {v : Value} {d : DataW H} {p : List MemPlace} (hv : Value.okWide Try.prog w .any base 22 v) (h : DataW.Trod enc Try.prog w 0 (fun _ => true) true 22 v d p) (hlt : ∀ x ∈ p, x.block < w.heap.size) :
    ∃ A l c, v = .slice A (List.length l) c ∧ CompsAt w A l ∧ (∀ y ∈ l, y.Good) ∧ l.length ≤ c ∧ c ≤ maxLen := by
  obtain ⟨a0, len, cap, rfl⟩ := okWide_slice Try.underlying22 hv
  obtain ⟨fuel, hf⟩ := h
  obtain ⟨A, l, c, e, h1⟩ := open_comps_cells hf hlt
  simp only [Value.cells, List.cons.injEq, and_true] at e
  exact ⟨A, l, c, e, h1⟩
set_option maxRecDepth 100000 in
theorem rec_comps {R : List Value} {y : DataW H × List MemPlace} {m o : Nat} (h : DataW.trod enc Try.prog w 0 (fun _ => true) true m 22 ((R.drop o).take (Try.prog.cellsOf 22)) = some y) (hlt : ∀ p ∈ y.2, p.block < w.heap.size) :
    ∃ A l c, R[o]? = some (.slice A (List.length l) c) ∧ CompsAt w A l ∧ (∀ z ∈ l, z.Good) ∧ l.length ≤ c ∧ c ≤ maxLen := by
  obtain ⟨A, l, c, e, h1⟩ := open_comps_cells h hlt
  rw [show Try.prog.cellsOf 22 = 1 by kernel_rfl] at e
  exact ⟨A, l, c, take_one e, h1⟩
end
end Go.Proofs.Ytfbkdabnbddgpaa
