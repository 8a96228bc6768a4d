/- The landed tree: another one of the same nodes, whether two are the same, one of its nodes. Conditions: trees. -/
import Derived.Test.YtkckgchohnkkpaaGreatMTTreeAct
import Derived.BigRegion
/- The landed tree: another one of the same nodes, whether two are the same, one of its nodes. Conditions: trees. -/
namespace Go.Proofs.YtkckgchohnkkpaaGreat
open Go.RowKit Go.Deep

theorem TreeAt.cell {w : World} {g : Nat} {l : List NodeV} (h : TreeAt w g l) : ∃ A c, w.cell? ⟨g, 0, none⟩ = some (.slice A l.length c) ∧ NodesC w A c l := by
  obtain ⟨A, c, hr, hn⟩ := h
  exact ⟨A, c, hr.cell (by omega), hn⟩
theorem results_two_row {P : Program} {fn : Func} {p u : Tmp} {ty : TypeId} (h : fn.results = #[.cell p ty, .tmp u]) (tmps : Array Value) (w : World) (g : Nat) (t : TypeId) (cs : Array Value) (fr : Nat × Nat) (d : TypeDesc)
    (hp : tmps.getD p undef = .pointer (some ⟨g, 0, none⟩)) (hg : w.heap[g]? = some (.cells cs t fr))
    (hu : P.underlying ty = some d) (hd : (match d with | .struct _ | .array _ _ => true | _ => false) = true) (hi : (P.info? ty).map (·.size) = some cs.size) :
    (results fn tmps).run P w = .ok (.tuple #[.agg cs, tmps.getD u undef]) w := by
  rw [results_cell_tmp h, hp]
  simp [asAddr, Result.andThen, run_loadVar_row w g t ty cs fr d hg hu hd hi]
/-- The node of an ID. -/
def getN (l : List NodeV) (id : Int) : NodeV := match rFind l id with
  | some k => (l[k]?).getD noNode
  | none => noNode
set_option maxHeartbeats 1000000 in
set_option maxRecDepth 100000 in
theorem get_any (p : Option Addr) (l : List NodeV) (hl : TreeM l) (id : Int) (w : World) (h : TPtr w p l) :
    Calls Tryz.prog 11 #[.pointer p, .int .i64 id] w fun e w' => e = .returned (.tuple #[.agg (nodeCells (getN l id)).toArray, .bool (rFind l id).isSome]) ∧ Below w.heap.size w w' := by
  have G := Lib.hid (fun w' (hb : Below w.heap.size w w') => at_any p l id hl.srt (by have := hl.len; omega) w' (h.below hb))
  have HR := Lib.hid (node_row w noNode rfl)
  have HB1 := Lib.hid ((Below.refl w.heap.size w).alloc (Nat.le_refl _) (.cells #[.int .i64 0, .int .i64 0, .string { data := #[] }, .bool false, .string { data := #[] }] 32))
  have HH := Lib.hid h
  obtain ⟨w1, HW1⟩ : ∃ x, Hid (w.alloc (.cells #[.int .i64 0, .int .i64 0, .string { data := #[] }, .bool false, .string { data := #[] }] 32) = x) := ⟨_, Lib.hid rfl⟩
  have HR1 : Hid (w1.rowIs w.heap.size 32 5 (nodeF noNode)) := by show World.rowIs _ _ _ _ _; rw [← HW1.out]; exact HR.out
  rw [HW1.out] at HB1
  clear HR h
  cases hf : rFind l id with
  | none =>
    have HN : Hid (getN l id = noNode) := by show _ = _; unfold getN; rw [hf]
    rw [HN.out]
    rw [hf] at G
    clear hf hl
    go_enter Tryz.func11, Tryz.ntmps11
    go_wp2_with fail
    rw [HW1.out]
    refine (G.out _ HB1.out).mono ?_
    rintro e w2 ⟨rfl, hb⟩
    have HB2 := Lib.hid (HB1.out.trans (hb.mono HB1.out.size))
    have HR2 := Lib.hid (HR1.out.of_block (hb.block _ HR1.out.lt))
    clear hb
    obtain ⟨j0, j1, j2, j3, j4⟩ := node_row_at HR2.out
    have f0 := HR2.out.frozen 0
    have f1 := HR2.out.frozen 1
    have f2 := HR2.out.frozen 2
    have f3 := HR2.out.frozen 3
    have f4 := HR2.out.frozen 4
    go_wp2
    refine bodyPost_ret (results_two_row rfl _ _ w.heap.size 32 #[.int .i64 noNode.id, .int .i64 noNode.parent, .string (bstr noNode.name), .bool noNode.dir, .string (bstr noNode.text)] (0, 0) _ rfl (node_row_cells (node_row_put noNode HR2.out)) Tryz.underlying32 rfl (by kernel_rfl)) rfl ?_
    exact ⟨rfl, HB2.out.trans (putNode_below noNode (Nat.le_refl _))⟩
  | some k =>
    obtain ⟨hk, _, _⟩ := rFind_some hf
    have HN : Hid (getN l id = l[k]) := by show _ = _; unfold getN; rw [hf]; show (l[k]?).getD _ = _; rw [List.getElem?_eq_getElem hk]; rfl
    obtain ⟨y, HY⟩ : ∃ y, Hid (l[k] = y) := ⟨_, Lib.hid rfl⟩
    rw [HN.out, HY.out]
    unfold nodeCells
    rw [hf, srt_at hl.srt hf] at G
    obtain ⟨g, rfl, HT⟩ : ∃ g, p = some ⟨g, 0, none⟩ ∧ Hid (TreeAt w g l) := by
      rcases HH.out with ⟨_, rfl⟩ | ⟨g, rfl, ht⟩
      · simp at hk
      · exact ⟨g, rfl, ht⟩
    have GO := Lib.hid (fun w => own_any l[k] (hl.slim _ (List.getElem_mem hk)).1 (hl.slim _ (List.getElem_mem hk)).2 w)
    have hkI : (k : Int) < (l.length : Int) := by omega
    rw [HY.out] at GO
    unfold nodeCells at GO
    clear hf hl
    go_enter Tryz.func11, Tryz.ntmps11
    go_wp2_with fail
    rw [HW1.out]
    refine (G.out _ HB1.out).mono ?_
    rintro e w2 ⟨rfl, hb⟩
    have HB2 := Lib.hid (HB1.out.trans (hb.mono HB1.out.size))
    have HR2 := Lib.hid (HR1.out.of_block (hb.block _ HR1.out.lt))
    clear hb
    obtain ⟨A, c, k1, hn⟩ := (HT.out.below HB2.out).cell
    obtain ⟨b, off, rfl, _⟩ := hn.1.form (by omega)
    obtain ⟨d0, d1, d2, d3, d4⟩ := hn.1.at_ hk
    clear hn
    rw [HY.out] at d0 d1 d2 d3 d4
    go_wp2_with fail
    refine (GO.out _).mono ?_
    rintro e w3 ⟨rfl, hb⟩
    have HB3 := Lib.hid (HB2.out.trans (hb.mono HB2.out.size))
    have HR3 := Lib.hid (HR2.out.of_block (hb.block _ HR2.out.lt))
    clear hb d0 d1 d2 d3 d4 k1
    obtain ⟨j0, j1, j2, j3, j4⟩ := node_row_at HR3.out
    have f0 := HR3.out.frozen 0
    have f1 := HR3.out.frozen 1
    have f2 := HR3.out.frozen 2
    have f3 := HR3.out.frozen 3
    have f4 := HR3.out.frozen 4
    go_wp2
    refine bodyPost_ret (results_two_row rfl _ _ w.heap.size 32 #[.int .i64 y.id, .int .i64 y.parent, .string (bstr y.name), .bool y.dir, .string (bstr y.text)] (0, 0) _ rfl (node_row_cells (node_row_put y HR3.out)) Tryz.underlying32 rfl (by kernel_rfl)) rfl ?_
    exact ⟨rfl, HB3.out.trans (putNode_below y (Nat.le_refl _))⟩
end Go.Proofs.YtkckgchohnkkpaaGreat
