/- Parts of edits that come in: what they hold, as which cells they lie, and how such arguments are opened. Condition: no slice and no text is longer than memory. -/
import Derived.Test.YtgenphpaidanhaaRecs
namespace Go.Proofs.Ytgenphpaidanhaa
open Go.ChangeShapes Go.WideShapes Go.ChangeAt Go.RowKit Go.Deep

/-- A part of an edit. -/
structure CompV where
  kind : Int
  n : Int
  text : List Nat
instance : Inhabited CompV := ⟨⟨0, 0, []⟩⟩
def CompV.Good (c : CompV) : Prop := Fit64 c.kind ∧ Fit64 c.n ∧ Bytes c.text
def compCells (c : CompV) : List Value := [.int .i64 c.kind, .int .i64 c.n, .string (bstr c.text)]
theorem compCells_length (c : CompV) : (compCells c).length = 3 := rfl
def CompsAt (w : World) (A : Option Addr) (l : List CompV) : Prop := CellsAt w A (l.flatMap compCells)
theorem CompsAt.below {w w' : World} {A : Option Addr} {l : List CompV} (h : CompsAt w A l) (hb : Below w.heap.size w w') : CompsAt w' A l := CellsAt.below h hb
theorem CompsAt.drew {w : World} {A : Option Addr} {l : List CompV} (h : CompsAt w A l) : CompsAt w.drew A l := CellsAt.drew h
theorem CompsAt.form {w : World} {A : Option Addr} {l : List CompV} (h : CompsAt w A l) (h0 : 0 < l.length) : ∃ b off, A = some ⟨b, off, none⟩ ∧ b < w.heap.size :=
  CellsAt.form h (by intro e; have := congrArg List.length e; rw [flat_length compCells 3 compCells_length] at this; simp at this; omega)
theorem CompsAt.at_ {w : World} {b off : Nat} {l : List CompV} (h : CompsAt w (some ⟨b, off, none⟩) l) {i : Nat} (hi : i < l.length) :
    w.cell? ⟨b, off + i * 3, none⟩ = some (.int .i64 l[i].kind) ∧ w.cell? ⟨b, off + i * 3 + 1, none⟩ = some (.int .i64 l[i].n) ∧ w.cell? ⟨b, off + i * 3 + 2, none⟩ = some (.string (bstr l[i].text)) := by
  refine ⟨?_, ?_, ?_⟩
  · exact CellsAt.cell h (j := i * 3 + 0) (by rw [flat_get compCells 3 compCells_length l i hi 0 (by omega)]; rfl)
  · rw [Nat.add_assoc]; exact CellsAt.cell h (by rw [flat_get compCells 3 compCells_length l i hi 1 (by omega)]; rfl)
  · rw [Nat.add_assoc]; exact CellsAt.cell h (by rw [flat_get compCells 3 compCells_length l i hi 2 (by omega)]; rfl)

section
variable {H : Type} {enc : TypeId × Value → H} {w : World}

end
end Go.Proofs.Ytgenphpaidanhaa
