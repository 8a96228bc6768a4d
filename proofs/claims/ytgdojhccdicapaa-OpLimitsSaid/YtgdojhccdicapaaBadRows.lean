/- Eight edits laid in a row, each in a block of its own. No condition. -/
import Derived.Test.YtgdojhccdicapaaOpTurns
namespace Go.Proofs.Ytgdojhccdicapaa
open Go.RowKit Go.Deep

/-- The slices of a row of edits, each with the parts that it reads as. -/
def EditsAt (w : World) (g : Nat) (ls : List (List CompV)) : Prop :=
  ∀ (i : Nat) (l : List CompV), ls[i]? = some l → ∃ b, w.cell? ⟨g, i, none⟩ = some (.slice (some ⟨b, 0, none⟩) l.length l.length) ∧ CompsAt w (some ⟨b, 0, none⟩) l
theorem EditsAt.below {w w' : World} {g : Nat} {ls : List (List CompV)} (h : EditsAt w g ls) (hg : g < w.heap.size) (hb : Below w.heap.size w w') : EditsAt w' g ls := by
  intro i l hi
  obtain ⟨b, h1, h2⟩ := h i l hi
  exact ⟨b, (hb.cell (p := ⟨g, i, none⟩) hg).trans h1, h2.below hb⟩
def badWorld (w : World) : World :=
  (((((((((w.alloc (.cells #[.int .i64 1, .int .i64 0, .string { data := #[] }] 35)).alloc (.cells #[.int .i64 2, .int .i64 0, .string { data := #[] }] 35)).alloc (.cells #[.int .i64 3, .int .i64 1, .string { data := #[] }, .int .i64 2, .int .i64 0, .string { data := #[97] }] 35)).alloc (.cells #[.int .i64 1, .int .i64 1, .string { data := #[] }, .int .i64 1, .int .i64 1, .string { data := #[] }] 35)).alloc (.cells #[.int .i64 1, .int .i64 1, .string { data := #[97] }] 35)).alloc (.cells #[.int .i64 2, .int .i64 1, .string { data := #[97] }] 35)).alloc (.cells #[.int .i64 2, .int .i64 0, .string { data := #[255] }] 35)).alloc (.cells #[.int .i64 0, .int .i64 0, .string { data := #[] }] 35)).alloc (.cells #[.slice (some ⟨w.heap.size, 0, none⟩) 1 1, .slice (some ⟨w.heap.size + 1, 0, none⟩) 1 1, .slice (some ⟨w.heap.size + 1 + 1, 0, none⟩) 2 2, .slice (some ⟨w.heap.size + 1 + 1 + 1, 0, none⟩) 2 2, .slice (some ⟨w.heap.size + 1 + 1 + 1 + 1, 0, none⟩) 1 1, .slice (some ⟨w.heap.size + 1 + 1 + 1 + 1 + 1, 0, none⟩) 1 1, .slice (some ⟨w.heap.size + 1 + 1 + 1 + 1 + 1 + 1, 0, none⟩) 1 1, .slice (some ⟨w.heap.size + 1 + 1 + 1 + 1 + 1 + 1 + 1, 0, none⟩) 1 1] 22))
def badRow0 (w : World) : World := (w.alloc (.cells #[.int .i64 1, .int .i64 0, .string { data := #[] }] 35))
def badRow1 (w : World) : World := ((w.alloc (.cells #[.int .i64 1, .int .i64 0, .string { data := #[] }] 35)).alloc (.cells #[.int .i64 2, .int .i64 0, .string { data := #[] }] 35))
def badRow2 (w : World) : World := (((w.alloc (.cells #[.int .i64 1, .int .i64 0, .string { data := #[] }] 35)).alloc (.cells #[.int .i64 2, .int .i64 0, .string { data := #[] }] 35)).alloc (.cells #[.int .i64 3, .int .i64 1, .string { data := #[] }, .int .i64 2, .int .i64 0, .string { data := #[97] }] 35))
def badRow3 (w : World) : World := ((((w.alloc (.cells #[.int .i64 1, .int .i64 0, .string { data := #[] }] 35)).alloc (.cells #[.int .i64 2, .int .i64 0, .string { data := #[] }] 35)).alloc (.cells #[.int .i64 3, .int .i64 1, .string { data := #[] }, .int .i64 2, .int .i64 0, .string { data := #[97] }] 35)).alloc (.cells #[.int .i64 1, .int .i64 1, .string { data := #[] }, .int .i64 1, .int .i64 1, .string { data := #[] }] 35))
def badRow4 (w : World) : World := (((((w.alloc (.cells #[.int .i64 1, .int .i64 0, .string { data := #[] }] 35)).alloc (.cells #[.int .i64 2, .int .i64 0, .string { data := #[] }] 35)).alloc (.cells #[.int .i64 3, .int .i64 1, .string { data := #[] }, .int .i64 2, .int .i64 0, .string { data := #[97] }] 35)).alloc (.cells #[.int .i64 1, .int .i64 1, .string { data := #[] }, .int .i64 1, .int .i64 1, .string { data := #[] }] 35)).alloc (.cells #[.int .i64 1, .int .i64 1, .string { data := #[97] }] 35))
def badRow5 (w : World) : World := ((((((w.alloc (.cells #[.int .i64 1, .int .i64 0, .string { data := #[] }] 35)).alloc (.cells #[.int .i64 2, .int .i64 0, .string { data := #[] }] 35)).alloc (.cells #[.int .i64 3, .int .i64 1, .string { data := #[] }, .int .i64 2, .int .i64 0, .string { data := #[97] }] 35)).alloc (.cells #[.int .i64 1, .int .i64 1, .string { data := #[] }, .int .i64 1, .int .i64 1, .string { data := #[] }] 35)).alloc (.cells #[.int .i64 1, .int .i64 1, .string { data := #[97] }] 35)).alloc (.cells #[.int .i64 2, .int .i64 1, .string { data := #[97] }] 35))
def badRow6 (w : World) : World := (((((((w.alloc (.cells #[.int .i64 1, .int .i64 0, .string { data := #[] }] 35)).alloc (.cells #[.int .i64 2, .int .i64 0, .string { data := #[] }] 35)).alloc (.cells #[.int .i64 3, .int .i64 1, .string { data := #[] }, .int .i64 2, .int .i64 0, .string { data := #[97] }] 35)).alloc (.cells #[.int .i64 1, .int .i64 1, .string { data := #[] }, .int .i64 1, .int .i64 1, .string { data := #[] }] 35)).alloc (.cells #[.int .i64 1, .int .i64 1, .string { data := #[97] }] 35)).alloc (.cells #[.int .i64 2, .int .i64 1, .string { data := #[97] }] 35)).alloc (.cells #[.int .i64 2, .int .i64 0, .string { data := #[255] }] 35))
def badRow7 (w : World) : World := ((((((((w.alloc (.cells #[.int .i64 1, .int .i64 0, .string { data := #[] }] 35)).alloc (.cells #[.int .i64 2, .int .i64 0, .string { data := #[] }] 35)).alloc (.cells #[.int .i64 3, .int .i64 1, .string { data := #[] }, .int .i64 2, .int .i64 0, .string { data := #[97] }] 35)).alloc (.cells #[.int .i64 1, .int .i64 1, .string { data := #[] }, .int .i64 1, .int .i64 1, .string { data := #[] }] 35)).alloc (.cells #[.int .i64 1, .int .i64 1, .string { data := #[97] }] 35)).alloc (.cells #[.int .i64 2, .int .i64 1, .string { data := #[97] }] 35)).alloc (.cells #[.int .i64 2, .int .i64 0, .string { data := #[255] }] 35)).alloc (.cells #[.int .i64 0, .int .i64 0, .string { data := #[] }] 35))
set_option maxRecDepth 100000 in
theorem bad_laid (w : World) : EditsAt (badWorld w) (w.heap.size + 1 + 1 + 1 + 1 + 1 + 1 + 1 + 1) badL ∧ (w.heap.size + 1 + 1 + 1 + 1 + 1 + 1 + 1 + 1 < (badWorld w).heap.size ∧ Below w.heap.size w (badWorld w)) := by
  have r0 : CompsAt (badRow0 w) (some ⟨w.heap.size, 0, none⟩) [⟨1, 0, []⟩] := row_one w _ rfl 1 0 []
  have r1 : CompsAt (badRow1 w) (some ⟨w.heap.size + 1, 0, none⟩) [⟨2, 0, []⟩] := row_one (badRow0 w) _ (by simp [badRow0]) 2 0 []
  have r2 : CompsAt (badRow2 w) (some ⟨w.heap.size + 1 + 1, 0, none⟩) [⟨3, 1, []⟩, ⟨2, 0, [97]⟩] := row_two (badRow1 w) _ (by simp [badRow1]) 3 1 [] 2 0 [97]
  have r3 : CompsAt (badRow3 w) (some ⟨w.heap.size + 1 + 1 + 1, 0, none⟩) [⟨1, 1, []⟩, ⟨1, 1, []⟩] := row_two (badRow2 w) _ (by simp [badRow2]) 1 1 [] 1 1 []
  have r4 : CompsAt (badRow4 w) (some ⟨w.heap.size + 1 + 1 + 1 + 1, 0, none⟩) [⟨1, 1, [97]⟩] := row_one (badRow3 w) _ (by simp [badRow3]) 1 1 [97]
  have r5 : CompsAt (badRow5 w) (some ⟨w.heap.size + 1 + 1 + 1 + 1 + 1, 0, none⟩) [⟨2, 1, [97]⟩] := row_one (badRow4 w) _ (by simp [badRow4]) 2 1 [97]
  have r6 : CompsAt (badRow6 w) (some ⟨w.heap.size + 1 + 1 + 1 + 1 + 1 + 1, 0, none⟩) [⟨2, 0, [255]⟩] := row_one (badRow5 w) _ (by simp [badRow5]) 2 0 [255]
  have r7 : CompsAt (badRow7 w) (some ⟨w.heap.size + 1 + 1 + 1 + 1 + 1 + 1 + 1, 0, none⟩) [⟨0, 0, []⟩] := row_one (badRow6 w) _ (by simp [badRow6]) 0 0 []
  have s0 : CompsAt (badWorld w) (some ⟨w.heap.size, 0, none⟩) [⟨1, 0, []⟩] := (CellsAt.alloc (CellsAt.alloc (CellsAt.alloc (CellsAt.alloc (CellsAt.alloc (CellsAt.alloc (CellsAt.alloc (CellsAt.alloc r0 _) _) _) _) _) _) _) _)
  have s1 : CompsAt (badWorld w) (some ⟨w.heap.size + 1, 0, none⟩) [⟨2, 0, []⟩] := (CellsAt.alloc (CellsAt.alloc (CellsAt.alloc (CellsAt.alloc (CellsAt.alloc (CellsAt.alloc (CellsAt.alloc r1 _) _) _) _) _) _) _)
  have s2 : CompsAt (badWorld w) (some ⟨w.heap.size + 1 + 1, 0, none⟩) [⟨3, 1, []⟩, ⟨2, 0, [97]⟩] := (CellsAt.alloc (CellsAt.alloc (CellsAt.alloc (CellsAt.alloc (CellsAt.alloc (CellsAt.alloc r2 _) _) _) _) _) _)
  have s3 : CompsAt (badWorld w) (some ⟨w.heap.size + 1 + 1 + 1, 0, none⟩) [⟨1, 1, []⟩, ⟨1, 1, []⟩] := (CellsAt.alloc (CellsAt.alloc (CellsAt.alloc (CellsAt.alloc (CellsAt.alloc r3 _) _) _) _) _)
  have s4 : CompsAt (badWorld w) (some ⟨w.heap.size + 1 + 1 + 1 + 1, 0, none⟩) [⟨1, 1, [97]⟩] := (CellsAt.alloc (CellsAt.alloc (CellsAt.alloc (CellsAt.alloc r4 _) _) _) _)
  have s5 : CompsAt (badWorld w) (some ⟨w.heap.size + 1 + 1 + 1 + 1 + 1, 0, none⟩) [⟨2, 1, [97]⟩] := (CellsAt.alloc (CellsAt.alloc (CellsAt.alloc r5 _) _) _)
  have s6 : CompsAt (badWorld w) (some ⟨w.heap.size + 1 + 1 + 1 + 1 + 1 + 1, 0, none⟩) [⟨2, 0, [255]⟩] := (CellsAt.alloc (CellsAt.alloc r6 _) _)
  have s7 : CompsAt (badWorld w) (some ⟨w.heap.size + 1 + 1 + 1 + 1 + 1 + 1 + 1, 0, none⟩) [⟨0, 0, []⟩] := (CellsAt.alloc r7 _)
  have c : ∀ (i : Nat) (v : Value), (#[Value.slice (some ⟨w.heap.size, 0, none⟩) 1 1, Value.slice (some ⟨w.heap.size + 1, 0, none⟩) 1 1, Value.slice (some ⟨w.heap.size + 1 + 1, 0, none⟩) 2 2, Value.slice (some ⟨w.heap.size + 1 + 1 + 1, 0, none⟩) 2 2, Value.slice (some ⟨w.heap.size + 1 + 1 + 1 + 1, 0, none⟩) 1 1, Value.slice (some ⟨w.heap.size + 1 + 1 + 1 + 1 + 1, 0, none⟩) 1 1, Value.slice (some ⟨w.heap.size + 1 + 1 + 1 + 1 + 1 + 1, 0, none⟩) 1 1, Value.slice (some ⟨w.heap.size + 1 + 1 + 1 + 1 + 1 + 1 + 1, 0, none⟩) 1 1] : Array Value)[i]? = some v → (badWorld w).cell? ⟨w.heap.size + 1 + 1 + 1 + 1 + 1 + 1 + 1 + 1, i, none⟩ = some v := fun i v hv => by
    have hn := heap_alloc_new (badRow7 w) (.cells #[.slice (some ⟨w.heap.size, 0, none⟩) 1 1, .slice (some ⟨w.heap.size + 1, 0, none⟩) 1 1, .slice (some ⟨w.heap.size + 1 + 1, 0, none⟩) 2 2, .slice (some ⟨w.heap.size + 1 + 1 + 1, 0, none⟩) 2 2, .slice (some ⟨w.heap.size + 1 + 1 + 1 + 1, 0, none⟩) 1 1, .slice (some ⟨w.heap.size + 1 + 1 + 1 + 1 + 1, 0, none⟩) 1 1, .slice (some ⟨w.heap.size + 1 + 1 + 1 + 1 + 1 + 1, 0, none⟩) 1 1, .slice (some ⟨w.heap.size + 1 + 1 + 1 + 1 + 1 + 1 + 1, 0, none⟩) 1 1] 22)
    rw [show (badRow7 w).heap.size = w.heap.size + 1 + 1 + 1 + 1 + 1 + 1 + 1 + 1 by simp [badRow7]] at hn
    exact (cell_of_row (badWorld w) _ _ _ _ _ hn).trans hv
  refine ⟨fun i l hi => ?_, by simp [badWorld], ?_⟩
  · match i, hi with
    | 0, hi => cases hi; exact ⟨_, c 0 _ rfl, s0⟩
    | 1, hi => cases hi; exact ⟨_, c 1 _ rfl, s1⟩
    | 2, hi => cases hi; exact ⟨_, c 2 _ rfl, s2⟩
    | 3, hi => cases hi; exact ⟨_, c 3 _ rfl, s3⟩
    | 4, hi => cases hi; exact ⟨_, c 4 _ rfl, s4⟩
    | 5, hi => cases hi; exact ⟨_, c 5 _ rfl, s5⟩
    | 6, hi => cases hi; exact ⟨_, c 6 _ rfl, s6⟩
    | 7, hi => cases hi; exact ⟨_, c 7 _ rfl, s7⟩
  · exact ((((((((((Below.refl _ w).alloc (by first | (simp; done) | (simp; omega)) _).alloc (by first | (simp; done) | (simp; omega)) _).alloc (by first | (simp; done) | (simp; omega)) _).alloc (by first | (simp; done) | (simp; omega)) _).alloc (by first | (simp; done) | (simp; omega)) _).alloc (by first | (simp; done) | (simp; omega)) _).alloc (by first | (simp; done) | (simp; omega)) _).alloc (by first | (simp; done) | (simp; omega)) _).alloc (by first | (simp; done) | (simp; omega)) _)
end Go.Proofs.Ytgdojhccdicapaa
