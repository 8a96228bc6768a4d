/- The landed tree: another one of the same nodes, whether two are the same, one of its nodes. Conditions: trees. -/
import Derived.Test.YtmedaimndaaiiaaGreatMSound
import Derived.BigRegion
/- The landed tree: another one of the same nodes, whether two are the same, one of its nodes. Conditions: trees. -/
namespace Go.Proofs.YtmedaimndaaiiaaGreat
open Go.RowKit Go.Deep

set_option maxHeartbeats 4000000 in
set_option maxRecDepth 100000 in
theorem equal_any (A B : Option Addr) (ca cb : Nat) (l m : List NodeV) (hl : l.length ≤ maxLen) (hm : m.length ≤ maxLen) (hgl : ∀ y ∈ l, y.Good) (hgm : ∀ y ∈ m, y.Good) (w : World) (hA : NodesAt w A l) (hB : NodesAt w B m) :
    Calls Tryz.prog 56 #[.slice A l.length ca, .slice B m.length cb] w fun e w' => e = .returned (.bool (sameN l m)) ∧ Below w.heap.size w w' := by
  unfold maxLen at hl hm
  have HA := Lib.hid hA; clear hA
  have HB := Lib.hid hB; clear hB
  have HGL := Lib.hid hgl; clear hgl
  have HGM := Lib.hid hgm; clear hgm
  obtain ⟨T, HT⟩ : ∃ T, Hid (sameN l m = T) := ⟨_, Lib.hid rfl⟩
  rw [HT.out]
  by_cases hlen : l.length = m.length
  · rw [← hlen]
    have HLEN := Lib.hid hlen
    clear hlen
    go_enter Tryz.func56, Tryz.ntmps56
    go_wp2
    go_loopw [5, 13] (fun s5 i wr => ∃ k : Nat, k ≤ l.length ∧ s5 = s5 ∧ i = .int .i64 k ∧ l.take k = m.take k ∧ Below w.heap.size w wr) (fun _ i _ => l.length - (intOf i).toNat)
    case atStart => exact ⟨0, Nat.zero_le _, rfl, rfl, rfl, Below.refl _ _⟩
    case round =>
      obtain ⟨k, hk, _, rfl, htk, hbel⟩ := hrel
      have HBEL := Lib.hid hbel; clear hbel
      have HTK := Lib.hid htk; clear htk
      by_cases hlt : k < l.length
      · have hlt2 : k < m.length := by have := HLEN.out; omega
        obtain ⟨b1, o1, rfl, _⟩ := HA.out.form (by omega)
        obtain ⟨b2, o2, rfl, _⟩ := HB.out.form (by omega)
        obtain ⟨x0, x1, x2, x3, x4⟩ := (HA.out.below HBEL.out).at_ hlt
        obtain ⟨y0, y1, y2, y3, y4⟩ := (HB.out.below HBEL.out).at_ hlt2
        have HYES : Hid (l[k] = m[k] → l.take (k + 1) = m.take (k + 1)) := fun h => by rw [List.take_succ_eq_append_getElem hlt, List.take_succ_eq_append_getElem hlt2, HTK.out, h]
        have HNO : Hid (l[k] ≠ m[k] → T = false) := fun h => by rw [← HT.out]; exact sameN_no fun e => h (by subst e; rfl)
        have HG1 := Lib.hid (HGL.out l[k] (List.getElem_mem hlt))
        have HG2 := Lib.hid (HGM.out m[k] (List.getElem_mem hlt2))
        generalize l[k] = c at x0 x1 x2 x3 x4 HYES HNO HG1
        generalize m[k] = d at y0 y1 y2 y3 y4 HYES HNO HG2
        clear hlt2
        obtain ⟨i1, p1, n1, d1, t1⟩ := c
        obtain ⟨i2, p2, n2, d2, t2⟩ := d
        simp only at x0 x1 x2 x3 x4 y0 y1 y2 y3 y4
        by_cases e0 : i1 = i2
        · subst e0
          by_cases e1 : p1 = p2
          · subst e1
            by_cases e2 : n1 = n2
            · subst e2
              by_cases e3 : d1 = d2
              · subst e3
                by_cases e4 : t1 = t2
                · subst e4
                  go_wp2_with fail
                  go_region
                  go_wp2
                  go_roundw
                  case rel => exact ⟨k + 1, by omega, trivial, by go_num, HYES.out trivial, HBEL.out.drew⟩
                  case measure => simp [intOf]; omega
                · have HF : Hid (T = false) := HNO.out fun h => e4 (by injection h)
                  have g2 : ((bstr t1).toList == (bstr t2).toList) = false := bstr_neq fun h => e4 (bstr_inj _ _ HG1.out.2.2.2.1 HG2.out.2.2.2.1 h)
                  have g2' : ((bstr t1).toList != (bstr t2).toList) = true := by rw [bne, g2]; rfl
                  clear e4
                  go_wp2_with fail
                  go_region
                  go_wp2
                  go_ret
                  exact ⟨by rw [HF.out]; rfl, HBEL.out.drew⟩
              · have HF : Hid (T = false) := HNO.out fun h => e3 (by injection h)
                cases d1
                · cases d2
                  · exact absurd rfl e3
                  · clear e3
                    go_wp2_with fail
                    go_region
                    go_wp2
                    go_ret
                    exact ⟨by rw [HF.out]; rfl, HBEL.out.drew⟩
                · cases d2
                  · clear e3
                    go_wp2_with fail
                    go_region
                    go_wp2
                    go_ret
                    exact ⟨by rw [HF.out]; rfl, HBEL.out.drew⟩
                  · exact absurd rfl e3
            · have HF : Hid (T = false) := HNO.out fun h => e2 (by injection h)
              have g2 : ((bstr n1).toList == (bstr n2).toList) = false := bstr_neq fun h => e2 (bstr_inj _ _ HG1.out.2.2.1.1 HG2.out.2.2.1.1 h)
              have g2' : ((bstr n1).toList != (bstr n2).toList) = true := by rw [bne, g2]; rfl
              clear e2
              go_wp2_with fail
              go_region
              go_wp2
              go_ret
              exact ⟨by rw [HF.out]; rfl, HBEL.out.drew⟩
          · have HF : Hid (T = false) := HNO.out fun h => e1 (by injection h)
            have g1 : (p1 == p2) = false := beq_eq_false_iff_ne.2 e1
            have g1' : (p1 != p2) = true := by rw [bne, g1]; rfl
            clear e1
            go_wp2_with fail
            go_region
            go_wp2
            go_ret
            exact ⟨by rw [HF.out]; rfl, HBEL.out.drew⟩
        · have HF : Hid (T = false) := HNO.out fun h => e0 (by injection h)
          have g1 : (i1 == i2) = false := beq_eq_false_iff_ne.2 e0
          have g1' : (i1 != i2) = true := by rw [bne, g1]; rfl
          clear e0
          go_wp2_with fail
          go_region
          go_wp2
          go_ret
          exact ⟨by rw [HF.out]; rfl, HBEL.out.drew⟩
      · have HR : Hid (T = true) := by
          show T = true
          rw [← HT.out]
          refine sameN_yes ?_
          have h1 := HTK.out
          have hke : k = l.length := by omega
          have := HLEN.out
          rw [List.take_of_length_le (by omega), List.take_of_length_le (by omega)] at h1
          exact h1
        go_wp2
        go_ret
        exact ⟨by rw [HR.out]; rfl, HBEL.out⟩
  · have HF : Hid (T = false) := by
      show T = false
      rw [← HT.out]
      exact sameN_no fun h => hlen (by rw [h])
    have g1 : ((l.length : Int) != (m.length : Int)) = true := by simp; omega
    clear hlen
    go_enter Tryz.func56, Tryz.ntmps56
    go_wp2
    go_ret
    exact ⟨by rw [HF.out]; rfl, Below.refl _ _⟩

theorem TreeAt.cell {w : World} {g : Nat} {l : List NodeV} (h : TreeAt w g l) : ∃ A c, w.cell? ⟨g, 0, none⟩ = some (.slice A l.length c) ∧ NodesC w A c l := by
  obtain ⟨A, c, hr, hn⟩ := h
  exact ⟨A, c, hr.cell (by omega), hn⟩
set_option maxHeartbeats 1000000 in
set_option maxRecDepth 100000 in
theorem same_any (g1 g2 : Nat) (l m : List NodeV) (hl : TreeM l) (hm : TreeM m) (w : World) (h1 : TreeAt w g1 l) (h2 : TreeAt w g2 m) :
    Calls Tryz.prog 25 #[.pointer (some ⟨g1, 0, none⟩), .pointer (some ⟨g2, 0, none⟩)] w fun e w' => e = .returned (.bool (sameN l m)) ∧ Below w.heap.size w w' := by
  obtain ⟨A, ca, k1, hA⟩ := h1.cell
  obtain ⟨B, cb, k2, hB⟩ := h2.cell
  have G := Lib.hid (equal_any A B ca cb l m (by have := hl.len; unfold maxLen; omega) (by have := hm.len; unfold maxLen; omega) hl.good hm.good w.drew hA.1.drew hB.1.drew)
  obtain ⟨T, HT⟩ : ∃ T, Hid (sameN l m = T) := ⟨_, Lib.hid rfl⟩
  rw [HT.out] at G ⊢
  have HG1 := Lib.hid h1.lt
  have HG2 := Lib.hid h2.lt
  have z1 : ∀ e : ExtK (keepBlocks [g1, g2]) w.drew, e.val.cell? ⟨g1, 0, none⟩ = some (.slice A l.length ca) := fun e => (cell_of_block (e.property.2 g1 (by simp)) 0).trans k1
  have z2 : ∀ e : ExtK (keepBlocks [g1, g2]) w.drew, e.val.cell? ⟨g2, 0, none⟩ = some (.slice B m.length cb) := fun e => (cell_of_block (e.property.2 g2 (by simp)) 0).trans k2
  clear hl hm h1 h2 hA hB k1 k2
  go_enter Tryz.func25, Tryz.ntmps25
  go_wp2_with fail
  refine wp_region_held_lit (keepBlocks [g1, g2]) [(0, true), (1, true), (2, true), (3, true), (4, true), (5, true), (6, true), (7, true), (8, false), (9, true)] (by kernel_rfl) (by kernel_rfl) (fun _ _ d _ _ h => by cases d <;> exact h) ?_
  simp only [picked, List.map_cons, List.map_nil, List.getElem?_cons_succ, List.getElem?_cons_zero, Option.getD_some]
  repeat (refine wpH_quiet (by rfl) (fun K hK => ?_); go_big_quiet_op; refine hK _ ?_; clear hK K)
  clear z1 z2
  refine wpH_one (by rfl) (fun K hK => ?_)
  go_simp
  refine (G.out).mono ?_
  rintro e w2 ⟨rfl, hb⟩
  refine hK _ _ (keep_two hb.size (hb.block g1 HG1.out) (hb.block g2 HG2.out)) ?_
  clear hK K
  have HB := Lib.hid hb
  clear hb
  repeat (refine wpH_quiet (by rfl) (fun K hK => ?_); go_big_quiet_op; refine hK _ ?_; clear hK K)
  refine wpH_nil ?_
  go_wp2
  go_ret
  exact ⟨rfl, (Below.refl _ _).drew.trans HB.out⟩
set_option maxRecDepth 100000 in
theorem same_nil (w : World) : Calls Tryz.prog 25 #[.pointer none, .pointer none] w fun e w' => e = .returned (.bool true) ∧ w = w' := by
  go_enter Tryz.func25, Tryz.ntmps25
  go_wp2
  go_ret
  exact ⟨rfl, rfl⟩
set_option maxRecDepth 100000 in
theorem same_one (g : Nat) (w : World) : Calls Tryz.prog 25 #[.pointer (some ⟨g, 0, none⟩), .pointer none] w fun e w' => e = .returned (.bool false) ∧ w = w' := by
  go_enter Tryz.func25, Tryz.ntmps25
  go_wp2
  go_ret
  exact ⟨rfl, rfl⟩

set_option maxRecDepth 100000 in
theorem copy_any (g : Nat) (l : List NodeV) (hl : TreeM l) (w : World) (h : TreeAt w g l) :
    Calls Tryz.prog 52 #[.pointer (some ⟨g, 0, none⟩)] w fun e w' => ∃ k, e = .returned (.pointer (some ⟨k, 0, none⟩)) ∧ w.heap.size ≤ k ∧ TreeAt w' k l ∧ Below w.heap.size w w' := by
  have G := Lib.hid (nodes_any _ l (by have := hl.len; omega) hl.slim w h.ptr)
  clear hl h
  go_enter Tryz.func52, Tryz.ntmps52
  go_wp2_with fail
  refine (G.out).mono ?_
  rintro e w2 ⟨A, c, rfl, ho, hb⟩
  have HB := Lib.hid hb
  have HT := Lib.hid (TreeAt.new ho.nodes (g := w2.heap.size) rfl)
  clear ho hb
  go_wp2
  go_ret
  exact ⟨_, rfl, HB.out.size, HT.out, HB.out.trans ((Below.refl _ _).alloc HB.out.size _)⟩
set_option maxRecDepth 100000 in
theorem copy_nil (w : World) : Calls Tryz.prog 52 #[.pointer none] w fun e w' => e = .returned (.pointer none) ∧ w = w' := by
  go_enter Tryz.func52, Tryz.ntmps52
  go_wp2
  go_ret
  exact ⟨rfl, rfl⟩

theorem results_two_row {P : Program} {fn : Func} {p u : Tmp} {ty : TypeId} (h : fn.results = #[.cell p ty, .tmp u]) (tmps : Array Value) (w : World) (g : Nat) (t : TypeId) (cs : Array Value) (fr : Nat × Nat) (d : TypeDesc)
    (hp : tmps.getD p undef = .pointer (some ⟨g, 0, none⟩)) (hg : w.heap[g]? = some (.cells cs t fr))
    (hu : P.underlying ty = some d) (hd : (match d with | .struct _ | .array _ _ => true | _ => false) = true) (hi : (P.info? ty).map (·.size) = some cs.size) :
    (results fn tmps).run P w = .ok (.tuple #[.agg cs, tmps.getD u undef]) w := by
  rw [results_cell_tmp h, hp]
  simp [asAddr, Result.andThen, run_loadVar_row w g t ty cs fr d hg hu hd hi]
/-- The node of an ID. -/
def getN (l : List NodeV) (id : Int) : NodeV := match rFind l id with
  | some k => (l[k]?).getD noNode
  | none => noNode
set_option maxHeartbeats 1000000 in
set_option maxRecDepth 100000 in
theorem get_any (p : Option Addr) (l : List NodeV) (hl : TreeM l) (id : Int) (w : World) (h : TPtr w p l) :
    Calls Tryz.prog 26 #[.pointer p, .int .i64 id] w fun e w' => e = .returned (.tuple #[.agg (nodeCells (getN l id)).toArray, .bool (rFind l id).isSome]) ∧ Below w.heap.size w w' := by
  have G := Lib.hid (fun w' (hb : Below w.heap.size w w') => at_any p l id hl.srt (by have := hl.len; omega) w' (h.below hb))
  have HR := Lib.hid (node_row w noNode rfl)
  have HB1 := Lib.hid ((Below.refl w.heap.size w).alloc (Nat.le_refl _) (.cells #[.int .i64 0, .int .i64 0, .string { data := #[] }, .bool false, .string { data := #[] }] 52))
  have HH := Lib.hid h
  obtain ⟨w1, HW1⟩ : ∃ x, Hid (w.alloc (.cells #[.int .i64 0, .int .i64 0, .string { data := #[] }, .bool false, .string { data := #[] }] 52) = x) := ⟨_, Lib.hid rfl⟩
  have HR1 : Hid (w1.rowIs w.heap.size 52 5 (nodeF noNode)) := by show World.rowIs _ _ _ _ _; rw [← HW1.out]; exact HR.out
  rw [HW1.out] at HB1
  clear HR h
  cases hf : rFind l id with
  | none =>
    have HN : Hid (getN l id = noNode) := by show _ = _; unfold getN; rw [hf]
    rw [HN.out]
    rw [hf] at G
    clear hf hl
    go_enter Tryz.func26, Tryz.ntmps26
    go_wp2_with fail
    rw [HW1.out]
    refine (G.out _ HB1.out).mono ?_
    rintro e w2 ⟨rfl, hb⟩
    have HB2 := Lib.hid (HB1.out.trans (hb.mono HB1.out.size))
    have HR2 := Lib.hid (HR1.out.of_block (hb.block _ HR1.out.lt))
    clear hb
    obtain ⟨j0, j1, j2, j3, j4⟩ := node_row_at HR2.out
    have f0 := HR2.out.frozen 0
    have f1 := HR2.out.frozen 1
    have f2 := HR2.out.frozen 2
    have f3 := HR2.out.frozen 3
    have f4 := HR2.out.frozen 4
    go_wp2
    refine bodyPost_ret (results_two_row rfl _ _ w.heap.size 52 #[.int .i64 noNode.id, .int .i64 noNode.parent, .string (bstr noNode.name), .bool noNode.dir, .string (bstr noNode.text)] (0, 0) _ rfl (node_row_cells (node_row_put noNode HR2.out)) Tryz.underlying52 rfl (by kernel_rfl)) rfl ?_
    exact ⟨rfl, HB2.out.trans (putNode_below noNode (Nat.le_refl _))⟩
  | some k =>
    obtain ⟨hk, _, _⟩ := rFind_some hf
    have HN : Hid (getN l id = l[k]) := by show _ = _; unfold getN; rw [hf]; show (l[k]?).getD _ = _; rw [List.getElem?_eq_getElem hk]; rfl
    obtain ⟨y, HY⟩ : ∃ y, Hid (l[k] = y) := ⟨_, Lib.hid rfl⟩
    rw [HN.out, HY.out]
    unfold nodeCells
    rw [hf, srt_at hl.srt hf] at G
    obtain ⟨g, rfl, HT⟩ : ∃ g, p = some ⟨g, 0, none⟩ ∧ Hid (TreeAt w g l) := by
      rcases HH.out with ⟨_, rfl⟩ | ⟨g, rfl, ht⟩
      · simp at hk
      · exact ⟨g, rfl, ht⟩
    have GO := Lib.hid (fun w => own_any l[k] (hl.slim _ (List.getElem_mem hk)).1 (hl.slim _ (List.getElem_mem hk)).2 w)
    have hkI : (k : Int) < (l.length : Int) := by omega
    rw [HY.out] at GO
    unfold nodeCells at GO
    clear hf hl
    go_enter Tryz.func26, Tryz.ntmps26
    go_wp2_with fail
    rw [HW1.out]
    refine (G.out _ HB1.out).mono ?_
    rintro e w2 ⟨rfl, hb⟩
    have HB2 := Lib.hid (HB1.out.trans (hb.mono HB1.out.size))
    have HR2 := Lib.hid (HR1.out.of_block (hb.block _ HR1.out.lt))
    clear hb
    obtain ⟨A, c, k1, hn⟩ := (HT.out.below HB2.out).cell
    obtain ⟨b, off, rfl, _⟩ := hn.1.form (by omega)
    obtain ⟨d0, d1, d2, d3, d4⟩ := hn.1.at_ hk
    clear hn
    rw [HY.out] at d0 d1 d2 d3 d4
    go_wp2_with fail
    refine (GO.out _).mono ?_
    rintro e w3 ⟨rfl, hb⟩
    have HB3 := Lib.hid (HB2.out.trans (hb.mono HB2.out.size))
    have HR3 := Lib.hid (HR2.out.of_block (hb.block _ HR2.out.lt))
    clear hb d0 d1 d2 d3 d4 k1
    obtain ⟨j0, j1, j2, j3, j4⟩ := node_row_at HR3.out
    have f0 := HR3.out.frozen 0
    have f1 := HR3.out.frozen 1
    have f2 := HR3.out.frozen 2
    have f3 := HR3.out.frozen 3
    have f4 := HR3.out.frozen 4
    go_wp2
    refine bodyPost_ret (results_two_row rfl _ _ w.heap.size 52 #[.int .i64 y.id, .int .i64 y.parent, .string (bstr y.name), .bool y.dir, .string (bstr y.text)] (0, 0) _ rfl (node_row_cells (node_row_put y HR3.out)) Tryz.underlying52 rfl (by kernel_rfl)) rfl ?_
    exact ⟨rfl, HB3.out.trans (putNode_below y (Nat.le_refl _))⟩
end Go.Proofs.YtmedaimndaaiiaaGreat
