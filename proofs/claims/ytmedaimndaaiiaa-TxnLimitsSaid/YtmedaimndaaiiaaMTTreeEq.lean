/- The landed tree: another one of the same nodes, whether two are the same, one of its nodes. Conditions: trees. -/
import Derived.Test.YtmedaimndaaiiaaMSound
import Derived.BigRegion
/- The landed tree: another one of the same nodes, whether two are the same, one of its nodes. Conditions: trees. -/
namespace Go.Proofs.Ytmedaimndaaiiaa
open Go.RowKit Go.Deep

theorem TreeAt.cell {w : World} {g : Nat} {l : List NodeV} (h : TreeAt w g l) : ∃ A c, w.cell? ⟨g, 0, none⟩ = some (.slice A l.length c) ∧ NodesC w A c l := by
  obtain ⟨A, c, hr, hn⟩ := h
  exact ⟨A, c, hr.cell (by omega), hn⟩
set_option maxRecDepth 100000 in
theorem copy_any (g : Nat) (l : List NodeV) (hl : TreeM l) (w : World) (h : TreeAt w g l) :
    Calls Try.prog 16 #[.pointer (some ⟨g, 0, none⟩)] w fun e w' => ∃ k, e = .returned (.pointer (some ⟨k, 0, none⟩)) ∧ w.heap.size ≤ k ∧ TreeAt w' k l ∧ Below w.heap.size w w' := by
  have G := Lib.hid (nodes_any _ l (by have := hl.len; omega) hl.slim w h.ptr)
  clear hl h
  go_enter Try.func16, Try.ntmps16
  go_wp2_with fail
  refine (G.out).mono ?_
  rintro e w2 ⟨A, c, rfl, ho, hb⟩
  have HB := Lib.hid hb
  have HT := Lib.hid (TreeAt.new ho.nodes (g := w2.heap.size) rfl)
  clear ho hb
  go_wp2
  go_ret
  exact ⟨_, rfl, HB.out.size, HT.out, HB.out.trans ((Below.refl _ _).alloc HB.out.size _)⟩
set_option maxRecDepth 100000 in
theorem copy_nil (w : World) : Calls Try.prog 16 #[.pointer none] w fun e w' => e = .returned (.pointer none) ∧ w = w' := by
  go_enter Try.func16, Try.ntmps16
  go_wp2
  go_ret
  exact ⟨rfl, rfl⟩

theorem results_two_row {P : Program} {fn : Func} {p u : Tmp} {ty : TypeId} (h : fn.results = #[.cell p ty, .tmp u]) (tmps : Array Value) (w : World) (g : Nat) (t : TypeId) (cs : Array Value) (fr : Nat × Nat) (d : TypeDesc)
    (hp : tmps.getD p undef = .pointer (some ⟨g, 0, none⟩)) (hg : w.heap[g]? = some (.cells cs t fr))
    (hu : P.underlying ty = some d) (hd : (match d with | .struct _ | .array _ _ => true | _ => false) = true) (hi : (P.info? ty).map (·.size) = some cs.size) :
    (results fn tmps).run P w = .ok (.tuple #[.agg cs, tmps.getD u undef]) w := by
  rw [results_cell_tmp h, hp]
  simp [asAddr, Result.andThen, run_loadVar_row w g t ty cs fr d hg hu hd hi]
/-- The node of an ID. -/
def getN (l : List NodeV) (id : Int) : NodeV := match rFind l id with
  | some k => (l[k]?).getD noNode
  | none => noNode
end Go.Proofs.Ytmedaimndaaiiaa
