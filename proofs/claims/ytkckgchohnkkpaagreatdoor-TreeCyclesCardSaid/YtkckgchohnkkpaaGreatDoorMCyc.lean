/- What TreeCycles holds. (Whatever is moved wherever, nobody stands within itself, each path leads to who has it, and none is lost: TreeCycles answers true and changes nothing.) No condition. -/
import Derived.Test.YtkckgchohnkkpaaGreatDoorMSix
import Derived.Test.YtkckgchohnkkpaaGreatDoorMCells
import Derived.Test.YtkckgchohnkkpaaGreatDoorMSound
/- What TreeCycles holds. (Whatever is moved wherever, nobody stands within itself, each path leads to who has it, and none is lost: TreeCycles answers true and changes nothing.) No condition. -/
namespace Go.Proofs.YtkckgchohnkkpaaGreatDoor
open Go.RowKit Go.Deep

/-- The tree, the row of names, the moves. -/
structure CycS (W : World) (g gn : Nat) (A : Option Addr) (l : List Int) (T : List NodeV) (wr : World) : Prop where
  tree : TreeAt wr g T
  row : wr.heap[gn]? = some (.cells #[.string { data := #[97] }, .string { data := #[98] }, .string { data := #[99] }, .string { data := #[100] }, .string { data := #[101] }, .string { data := #[102] }] 9 (0, 0))
  ints : IntsAt wr A l
  bel : Below W.heap.size W wr
  new : W.heap.size ≤ g ∧ gn ≠ g
theorem CycS.below {W : World} {g gn : Nat} {A : Option Addr} {l : List Int} {T : List NodeV} {wr w2 : World} (h : CycS W g gn A l T wr) (hb : Below wr.heap.size wr w2) : CycS W g gn A l T w2 :=
  ⟨h.tree.below hb, by rw [hb.block gn (Array.getElem?_eq_some_iff.1 h.row).1]; exact h.row, h.ints.below hb, h.bel.trans (hb.mono h.bel.size), h.new⟩
theorem CycS.name {W : World} {g gn : Nat} {A : Option Addr} {l : List Int} {T : List NodeV} {wr : World} (h : CycS W g gn A l T wr) {k : Nat} (hk : k < 6) : wr.cell? ⟨gn, k, none⟩ = some (.string (bstr [97 + k])) := by
  rw [Lib.cell_of_heap h.row]
  match k, hk with
  | 0, _ => rfl
  | 1, _ => rfl
  | 2, _ => rfl
  | 3, _ => rfl
  | 4, _ => rfl
  | 5, _ => rfl
theorem IntsAt.only {w w' : World} {g : Nat} {t : List NodeV} (h : TreeAt w g t) (ho : Only g w w') {A : Option Addr} {l : List Int} (hc : IntsAt w A l) : IntsAt w' A l := by
  by_cases h0 : l = []
  · exact .inl h0
  have hC : CellsAt w A (l.map fun x => Value.int .i64 x) := by
    rcases hc with hc | ⟨b, off, e, hlt, hc⟩
    · exact absurd hc h0
    · refine .inr ⟨b, off, e, hlt, fun j v hj => ?_⟩
      rw [List.getElem?_map] at hj
      obtain ⟨x, hx, rfl⟩ := Option.map_eq_some_iff.1 hj
      exact hc j x hx
  have h2 := CellsAt.only h ho hC (fun v hv B n c e => by
    cases l with
    | nil => exact h0 rfl
    | cons x r =>
      simp at hv
      rw [e] at hv
      cases hv)
  rcases h2 with h2 | ⟨b, off, e, hlt, h2⟩
  · exact absurd (by simpa using h2) h0
  · exact .inr ⟨b, off, e, hlt, fun j x hj => h2 j _ (by rw [List.getElem?_map, hj]; rfl)⟩
theorem CycS.does {W : World} {g gn : Nat} {A : Option Addr} {l : List Int} {T X : List NodeV} {wr w2 : World} (h : CycS W g gn A l T wr) (ht : TreeAt w2 g X) (ho : Only g wr w2) : CycS W g gn A l X w2 :=
  ⟨ht, by rw [ho.block gn (Array.getElem?_eq_some_iff.1 h.row).1 h.new.2]; exact h.row, IntsAt.only h.tree ho h.ints, ho.below h.bel h.new.1, h.new⟩
end Go.Proofs.YtkckgchohnkkpaaGreatDoor
