/- An act in a box; what the landed Do leaves. No condition. (Merged of 2 texts.) -/
import Derived.Test.YtmedaimndaaiiaaMTTreeLand
import Derived.Test.YtmedaimndaaiiaaMTTreePut
import Derived.Test.YtmedaimndaaiiaaMTm
/- The landed tree: where a node may stand; just what is a tree is taken. Conditions: no more than 2^20 nodes, nodes that may be, names and texts of at most 2^40 bytes. -/
namespace Go.Proofs.Ytmedaimndaaiiaa
open Go.RowKit Go.Deep

end Go.Proofs.Ytmedaimndaaiiaa

/- An act in a box; what the landed Do leaves. No condition. -/
namespace Go.Proofs.Ytmedaimndaaiiaa
open Go.RowKit Go.Deep

def actF (a : ActV) (j : Nat) : Value := ((actCells a)[j]?).getD undef
theorem act_row (w : World) (a : ActV) : (w.alloc (.cells #[.int .i64 a.kind, .int .i64 a.id, .int .i64 a.parent, .string (bstr a.name), .bool a.dir, .slice a.opsA a.ops.length a.opsC] 26)).rowIs w.heap.size 26 6 (actF a) := by
  refine World.rowIs_alloc w _ _ _ (fun i hi => ?_)
  match i, hi with
  | 0, _ => rfl
  | 1, _ => rfl
  | 2, _ => rfl
  | 3, _ => rfl
  | 4, _ => rfl
  | 5, _ => rfl
theorem act_row_at {w : World} {b : Nat} {a : ActV} (h : w.rowIs b 26 6 (actF a)) :
    w.cell? ⟨b, 0, none⟩ = some (.int .i64 a.kind) ∧ w.cell? ⟨b, 1, none⟩ = some (.int .i64 a.id) ∧ w.cell? ⟨b, 2, none⟩ = some (.int .i64 a.parent) ∧ w.cell? ⟨b, 3, none⟩ = some (.string (bstr a.name)) ∧ w.cell? ⟨b, 4, none⟩ = some (.bool a.dir) ∧ w.cell? ⟨b, 5, none⟩ = some (.slice a.opsA a.ops.length a.opsC) :=
  ⟨h.cell (by omega), h.cell (by omega), h.cell (by omega), h.cell (by omega), h.cell (by omega), h.cell (by omega)⟩
/-- What Do leaves. -/
def DoRes (W : World) (g : Nat) (l : List NodeV) (a : ActV) (e : Ending) (w : World) : Prop := e = .returned (.int .i64 (rDo l a).2) ∧ TreeAt w g (rDo l a).1 ∧ Only g W w
theorem doRes_of {W w : World} {g : Nat} {l m : List NodeV} {a : ActV} {u : Int} {e : Ending} (h : rDo l a = (m, u)) (h1 : e = .returned (.int .i64 u)) (h2 : TreeAt w g m) (h3 : Only g W w) : DoRes W g l a e w := by
  unfold DoRes
  rw [h]
  exact ⟨h1, h2, h3⟩
attribute [irreducible] DoRes
theorem DoRes.out {W w : World} {g : Nat} {l : List NodeV} {a : ActV} {e : Ending} (h : DoRes W g l a e w) : e = .returned (.int .i64 (rDo l a).2) ∧ TreeAt w g (rDo l a).1 ∧ Only g W w := by
  unfold DoRes at h
  exact h
theorem TreeM.slim {l : List NodeV} (h : TreeM l) : Slim l := fun y hy => by
  obtain ⟨_, _, h3, _, h5, _⟩ := h.nd y hy
  rw [isName_iff] at h3
  exact ⟨by omega, by omega⟩
theorem TreeM.rising {l : List NodeV} (h : TreeM l) : Rising l := h.land.2.1
theorem TreeM.goodv {l : List NodeV} (h : TreeM l) : ∀ y ∈ l, (∃ vs, V y.text vs) ∧ y.text.length ≤ 1099511627776 := fun y hy => by
  obtain ⟨_, _, _, _, h5, h6, _⟩ := h.nd y hy
  exact ⟨h6, by omega⟩
theorem TreeM.ch_pos {l : List NodeV} (h : TreeM l) {p : Int} {n : List Nat} (hc : chB l p n = true) : 1 ≤ rChild l p n ∧ chI l p n = rChild l p n := by
  refine ⟨?_, if_pos hc⟩
  obtain ⟨y, hy, _, _, e⟩ := child_some (chB_iff.1 hc)
  rw [e]
  exact h.pos hy
theorem ch_none {l : List NodeV} {p : Int} {n : List Nat} (hc : ¬ chB l p n = true) : rChild l p n < 0 := by
  rw [rChild_none fun y hy e => hc (chB_yes hy e)]
  omega
end Go.Proofs.Ytmedaimndaaiiaa
