/- Slices of nodes, cut: l[:k], l[k:]. Condition: the places are within. (Merged of 3 texts.) -/
import Derived.Test.YtmedaimndaaiiaaMCells
import Derived.Test.YtmedaimndaaiiaaMMono
import Derived.Test.YtmedaimndaaiiaaMOwn
import Derived.Deep.OwnRows
/- The document's own Find, Child, within: the place of an ID, a parent's child, what stands within what. Conditions: no slice is longer than memory; nodes that may be. -/
namespace Go.Proofs.Ytmedaimndaaiiaa
open Go.RowKit Go.Deep

/-- Nodes that lie in a slice with room for c of them. -/
def NodesC (w : World) (A : Option Addr) (c : Nat) (l : List NodeV) : Prop := NodesAt w A l ∧ l.length ≤ c
theorem NodesC.below {w w' : World} {A : Option Addr} {c : Nat} {l : List NodeV} (h : NodesC w A c l) (hb : Below w.heap.size w w') : NodesC w' A c l := ⟨h.1.below hb, h.2⟩
theorem NodesC.drew {w : World} {A : Option Addr} {c : Nat} {l : List NodeV} (h : NodesC w A c l) : NodesC w.drew A c l := ⟨h.1.drew, h.2⟩

end Go.Proofs.Ytmedaimndaaiiaa

/- The landed tree behind a pointer: the nodes that it shows; what stays when only it is written. No condition. -/
namespace Go.Proofs.Ytmedaimndaaiiaa
open Go.RowKit Go.Deep

/-- The tree in block g shows the nodes l. -/
def TreeAt (w : World) (g : Nat) (l : List NodeV) : Prop := ∃ A c, w.rowIs g 47 1 (fun _ => .slice A l.length c) ∧ NodesC w A c l
theorem TreeAt.lt {w : World} {g : Nat} {l : List NodeV} (h : TreeAt w g l) : g < w.heap.size := by
  obtain ⟨_, _, h, _⟩ := h
  exact h.lt
theorem TreeAt.below {w w' : World} {g : Nat} {l : List NodeV} (h : TreeAt w g l) (hb : Below w.heap.size w w') : TreeAt w' g l := by
  obtain ⟨A, c, h, hn⟩ := h
  exact ⟨A, c, h.of_block (hb.block g h.lt), hn.below hb⟩
theorem TreeAt.drew {w : World} {g : Nat} {l : List NodeV} (h : TreeAt w g l) : TreeAt w.drew g l := by
  obtain ⟨A, c, h, hn⟩ := h
  exact ⟨A, c, h.drew, hn.drew⟩
theorem TreeAt.new {w : World} {A : Option Addr} {c : Nat} {l : List NodeV} (h : NodesC w A c l) {g : Nat} (hg : g = w.heap.size) : TreeAt (w.alloc (.cells #[.slice A l.length c] 47)) g l := by
  subst hg
  refine ⟨A, c, World.rowIs_alloc w #[.slice A l.length c] _ _ (fun i hi => ?_), h.below ((Below.refl _ _).alloc (Nat.le_refl _) _)⟩
  obtain rfl : i = 0 := by simpa using hi
  rfl
/-- Who holds cells of a first number lies not in the tree's own block. -/
theorem CellsAt.only {w w' : World} {g : Nat} {t : List NodeV} (h : TreeAt w g t) (ho : Only g w w') {A : Option Addr} {l : List Value} (hc : CellsAt w A l) (hl : ∀ v, l[0]? = some v → ∀ B n c, v ≠ .slice B n c) : CellsAt w' A l := by
  rcases hc with hc | ⟨b, off, rfl, hlt, hc⟩
  · exact .inl hc
  by_cases h0 : l = []
  · exact .inl h0
  obtain ⟨At, ct, hr, _⟩ := h
  have hne : b ≠ g := by
    intro e
    subst e
    obtain ⟨v, l', rfl⟩ := List.exists_cons_of_ne_nil h0
    have h1 := hc 0 v rfl
    obtain ⟨cs, hh, hsz, hv⟩ := hr
    rw [Nat.add_zero] at h1
    have h2 := cell_of_row w b off _ _ _ hh
    rw [h1] at h2
    rcases Nat.lt_or_ge off 1 with h3 | h3
    · obtain rfl : off = 0 := by omega
      rw [hv 0 (by omega)] at h2
      injection h2 with h2
      exact hl v rfl _ _ _ h2
    · rw [Array.getElem?_eq_none (by omega)] at h2
      cases h2
  refine .inr ⟨b, off, rfl, Nat.lt_of_lt_of_le hlt ho.size, fun j v hj => ?_⟩
  have := hc j v hj
  unfold World.cell? at this ⊢
  simp only [ho.block b hlt hne] at this ⊢
  exact this
theorem NodesAt.only {w w' : World} {g : Nat} {t : List NodeV} (h : TreeAt w g t) (ho : Only g w w') {A : Option Addr} {l : List NodeV} (hc : NodesAt w A l) : NodesAt w' A l := by
  refine CellsAt.only h ho hc fun v hv B n c e => ?_
  cases l with
  | nil => cases hv
  | cons y l =>
    rw [List.flatMap_cons] at hv
    injection hv with hv
    rw [e] at hv
    cases hv
theorem NodesC.only {w w' : World} {g : Nat} {t : List NodeV} (h : TreeAt w g t) (ho : Only g w w') {A : Option Addr} {c : Nat} {l : List NodeV} (hc : NodesC w A c l) : NodesC w' A c l := ⟨NodesAt.only h ho hc.1, hc.2⟩
/-- Another tree stays. -/
theorem TreeAt.other {w w' : World} {g k : Nat} {t l : List NodeV} (h : TreeAt w g t) (hk : TreeAt w k l) (hne : k ≠ g) (ho : Only g w w') : TreeAt w' k l := by
  obtain ⟨A, c, hr, hn⟩ := hk
  exact ⟨A, c, hr.of_block (ho.block k hr.lt hne), NodesC.only h ho hn⟩
/-- The tree's one cell is written. -/
theorem TreeAt.put {w : World} {g : Nat} {t l : List NodeV} (h : TreeAt w g t) {A : Option Addr} {c : Nat} (hn : NodesC w A c l) : TreeAt (w.setCell ⟨g, 0, none⟩ (.slice A l.length c)) g l := by
  have ho : Only g w (w.setCell ⟨g, 0, none⟩ (.slice A l.length c)) := (Only.refl g w).set 0 _
  obtain ⟨A0, c0, hr, h0⟩ := h
  refine ⟨A, c, (hr.set 0 _).congr (fun i hi => ?_), NodesC.only ⟨A0, c0, hr, h0⟩ ho hn⟩
  rw [if_pos (by omega)]
/-- A pointer to a tree, nil among them: nil has no nodes. -/
def TPtr (w : World) (p : Option Addr) (l : List NodeV) : Prop := (p = none ∧ l = []) ∨ ∃ g, p = some ⟨g, 0, none⟩ ∧ TreeAt w g l
theorem TPtr.below {w w' : World} {p : Option Addr} {l : List NodeV} (h : TPtr w p l) (hb : Below w.heap.size w w') : TPtr w' p l := by
  rcases h with h | ⟨g, rfl, h⟩
  · exact .inl h
  · exact .inr ⟨g, rfl, h.below hb⟩
theorem TreeAt.ptr {w : World} {g : Nat} {l : List NodeV} (h : TreeAt w g l) : TPtr w (some ⟨g, 0, none⟩) l := .inr ⟨g, rfl, h⟩
end Go.Proofs.Ytmedaimndaaiiaa

/- Slices of nodes, cut: l[:k], l[k:]. Condition: the places are within. -/
namespace Go.Proofs.Ytmedaimndaaiiaa
open Go.RowKit Go.Deep

theorem elem_nodes : Try.prog.elem 38 = 57 := by kernel_rfl
theorem size_nodes (w : World) : (sizeOf 57).run Try.prog w = .ok 5 w := Try.sizeOf57 w
/-- The place behind l[:k], l[k:]. -/
def nHigh (A : Option Addr) (c : Nat) : Option Addr := if c = 0 then A else A.map (·.add (0 * 5))
def nLow (A : Option Addr) (k c : Nat) : Option Addr := if c = k then A else A.map (·.add (k * 5))
theorem ncut_high (A : Option Addr) (n c k : Nat) (hk : k ≤ c) (w : World) : (Instr.slice 38 (.slice A n c) none (some (.int .i64 (k : Int))) none).run Try.prog w = .ok (.slice (nHigh A c) k c) w := by
  rw [run_slice_h (P := Try.prog) (w := w) 38 A n c (by rw [elem_nodes]; exact Try.underlying38) .i64 (k : Int) (by omega) (by omega), elem_nodes, size_nodes]
  simp [Result.andThen, sliced, nHigh]
theorem ncut_low (A : Option Addr) (n c k : Nat) (hk : k ≤ n) (w : World) : (Instr.slice 38 (.slice A n c) (some (.int .i64 (k : Int))) none none).run Try.prog w = .ok (.slice (nLow A k c) (n - k) (c - k)) w := by
  rw [run_slice_l (P := Try.prog) (w := w) 38 A n c (by rw [elem_nodes]; exact Try.underlying38) .i64 (k : Int) (by omega) (by omega), elem_nodes, size_nodes]
  simp [Result.andThen, sliced, nLow]
theorem flatMap_take (l : List NodeV) (k : Nat) : (l.take k).flatMap nodeCells = (l.flatMap nodeCells).take (k * 5) := by
  induction l generalizing k with
  | nil => simp
  | cons y l ih =>
    cases k with
    | zero => simp
    | succ k =>
      have e5 : (k + 1) * 5 = (nodeCells y).length + k * 5 := by
        rw [show (nodeCells y).length = 5 from rfl]
        omega
      rw [List.take_succ_cons, List.flatMap_cons, List.flatMap_cons, ih, e5, List.take_length_add_append]
theorem flatMap_drop (l : List NodeV) (k : Nat) : (l.drop k).flatMap nodeCells = (l.flatMap nodeCells).drop (k * 5) := by
  induction l generalizing k with
  | nil => simp
  | cons y l ih =>
    cases k with
    | zero => simp
    | succ k =>
      have e5 : (k + 1) * 5 = (nodeCells y).length + k * 5 := by
        rw [show (nodeCells y).length = 5 from rfl]
        omega
      rw [List.drop_succ_cons, List.flatMap_cons, ih, e5, List.drop_length_add_append]
theorem NodesAt.high {w : World} {A : Option Addr} {l : List NodeV} (h : NodesAt w A l) (c k : Nat) : NodesAt w (nHigh A c) (l.take k) := by
  have ht : NodesAt w A (l.take k) := by
    rcases h with h | ⟨b, off, rfl, hlt, hc⟩
    · left; rw [flatMap_take, h]; simp
    · right
      refine ⟨b, off, rfl, hlt, fun j v hj => hc j v ?_⟩
      rw [flatMap_take, List.getElem?_take] at hj
      split at hj
      · exact hj
      · cases hj
  unfold nHigh
  split
  · exact ht
  · rcases ht with h | ⟨b, off, rfl, hlt, hc⟩
    · exact .inl h
    · have e : (some (⟨b, off, none⟩ : Addr)).map (·.add (0 * 5)) = some ⟨b, off, none⟩ := rfl
      rw [e]
      exact .inr ⟨b, off, rfl, hlt, hc⟩
theorem NodesAt.low {w : World} {A : Option Addr} {l : List NodeV} (h : NodesAt w A l) (c k : Nat) (hc : l.length ≤ c) : NodesAt w (nLow A k c) (l.drop k) := by
  unfold nLow
  split
  · left; rw [List.drop_eq_nil_of_le (by omega)]; rfl
  · rcases h with h | ⟨b, off, rfl, hlt, hcc⟩
    · left; rw [flatMap_drop, h]; simp
    · have e : (some (⟨b, off, none⟩ : Addr)).map (·.add (k * 5)) = some ⟨b, off + k * 5, none⟩ := by
        show some ((⟨b, off, none⟩ : Addr).add (k * 5)) = _
        rw [Go.WideShapes.add_plain]
      rw [e]
      right
      refine ⟨b, off + k * 5, rfl, hlt, fun j v hj => ?_⟩
      rw [flatMap_drop, List.getElem?_drop] at hj
      rw [Nat.add_assoc]
      exact hcc _ v hj
attribute [irreducible] nHigh nLow
end Go.Proofs.Ytmedaimndaaiiaa
