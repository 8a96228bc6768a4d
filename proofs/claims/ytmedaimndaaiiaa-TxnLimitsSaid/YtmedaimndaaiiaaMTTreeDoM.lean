/- The landed tree: one is put into another parent, or under another name. Conditions: a tree, an act that may be. -/
import Derived.Test.YtmedaimndaaiiaaMTTreeWithin
/- The landed tree: one is put into another parent, or under another name. Conditions: a tree, an act that may be. -/
namespace Go.Proofs.Ytmedaimndaaiiaa
open Go.RowKit Go.Deep

theorem rUp_any {l : List NodeV} {p : Int} (id : Int) {u : Int} (h : rUp l p 0 = u) (hu : u ≠ 0) : rUp l p id = u := by
  by_cases h0 : p = 0
  · subst h0; rw [rUp_root] at h; omega
  · cases hf : rFind l p with
    | none => rw [rUp_none 0 h0 hf] at h; rw [rUp_none id h0 hf, h]
    | some k =>
      obtain ⟨hk, _, _⟩ := rFind_some hf
      rw [rUp_some 0 hk h0 hf] at h
      rw [rUp_some id hk h0 hf]
      by_cases hd : l[k].dir = false
      · rw [if_pos hd] at h ⊢; exact h
      · rw [if_neg hd, if_neg (by omega)] at h; omega
theorem rUp_go {l : List NodeV} {p : Int} {id : Int} (h : rUp l p 0 = 0) (hw : p ≠ 0 → rWithin l p id = false) : rUp l p id = 0 := by
  by_cases h0 : p = 0
  · subst h0; exact rUp_root _ _
  · cases hf : rFind l p with
    | none => rw [rUp_none 0 h0 hf] at h; omega
    | some k =>
      obtain ⟨hk, _, _⟩ := rFind_some hf
      rw [rUp_some 0 hk h0 hf] at h
      rw [rUp_some id hk h0 hf]
      by_cases hd : l[k].dir = false
      · rw [if_pos hd] at h; omega
      · rw [if_neg hd, if_neg (by rw [hw h0]; simp)]
theorem rUp_cyc {l : List NodeV} {p : Int} {id : Int} (hid : 1 ≤ id) (h0 : p ≠ 0) (h : rUp l p 0 = 0) (hw : rWithin l p id = true) : rUp l p id = 10 := by
  cases hf : rFind l p with
  | none => rw [rUp_none 0 h0 hf] at h; omega
  | some k =>
    obtain ⟨hk, _, _⟩ := rFind_some hf
    rw [rUp_some 0 hk h0 hf] at h
    rw [rUp_some id hk h0 hf]
    by_cases hd : l[k].dir = false
    · rw [if_pos hd] at h; omega
    · rw [if_neg hd, if_pos ⟨by omega, hw⟩]
theorem spl_set (l : List NodeV) {k : Nat} (hk : k < l.length) (y : NodeV) : spl l k (k + 1) [y] = l.set k y := by
  unfold spl
  rw [List.set_eq_take_append_cons_drop, if_pos hk, List.append_assoc]
  rfl
/-- A node in a box, its parent and its name changed. -/
theorem node_row_move {w : World} {g : Nat} {y : NodeV} (p : Int) (n : List Nat) (h : w.rowIs g 57 5 (nodeF y)) : ((w.setCell ⟨g, 1, none⟩ (.int .i64 p)).setCell ⟨g, 2, none⟩ (.string (bstr n))).rowIs g 57 5 (nodeF ⟨y.id, p, n, y.dir, y.text⟩) := by
  refine ((h.set 1 _).set 2 _).congr fun j hj => ?_
  match j, hj with
  | 0, _ => rfl
  | 1, _ => rfl
  | 2, _ => rfl
  | 3, _ => rfl
  | 4, _ => rfl
set_option maxHeartbeats 4000000 in
set_option maxRecDepth 100000 in
theorem move_any (g : Nat) (l : List NodeV) (a : ActV) (hm : TreeM l) (ha : ActOk a) (hk : a.kind = 3) (w : World) (h : TreeAt w g l) (hop : CompsAt w a.opsA a.ops) :
    Calls Try.prog 31 #[.pointer (some ⟨g, 0, none⟩), .agg (actCells a).toArray] w (DoRes w g l a) := by
  have HM := Lib.hid hm
  have HT := Lib.hid h
  have HA := Lib.hid ha
  have HOP := Lib.hid hop
  have hl := hm.len
  have HTW : Hid (∀ w', Below w.heap.size w w' → TreeAt w' g l) := fun w' hb => HT.out.below hb
  have HR := Lib.hid (act_row w a)
  have HBA := Lib.hid ((Below.refl w.heap.size w).alloc (Nat.le_refl _) (.cells #[.int .i64 a.kind, .int .i64 a.id, .int .i64 a.parent, .string (bstr a.name), .bool a.dir, .slice a.opsA a.ops.length a.opsC] 26))
  obtain ⟨w1, HW1⟩ : ∃ x, Hid (w.alloc (.cells #[.int .i64 a.kind, .int .i64 a.id, .int .i64 a.parent, .string (bstr a.name), .bool a.dir, .slice a.opsA a.ops.length a.opsC] 26) = x) := ⟨_, Lib.hid rfl⟩
  rw [HW1.out] at HR HBA
  have HB1 := Lib.hid (Below.refl w1.heap.size w1)
  have HGL : Hid (g < w.heap.size) := h.lt
  have GNAME := Lib.hid (fun (w' : World) (_ : Below w.heap.size w w') => name_any a.name ha.1.2.2.2.1.1 (by have := ha.2.1; unfold maxLen; omega) w')
  have GAT := Lib.hid (fun (w' : World) (hb : Below w.heap.size w w') => at_any _ l a.id hm.srt (by omega) w' (HTW.out w' hb).ptr)
  have GINTO := Lib.hid (fun (w' : World) (hb : Below w.heap.size w w') => into_any g l a.parent hm.srt (by omega) w' (HTW.out w' hb))
  have GLINE := Lib.hid (fun (w' : World) (hb : Below w.heap.size w w') => line_any g l a.parent hm.srt (by omega) w' (HTW.out w' hb))
  have GCH := Lib.hid (fun (w' : World) (hb : Below w.heap.size w w') => child_any _ l a.parent a.name (by omega) hm.good ha.1.2.2.2.1.1 w' (HTW.out w' hb).ptr)
  have GCL := Lib.hid (fun (w' : World) => clone_any a.name (by have := ha.2.1; omega) w')
  have HK := Lib.hid hk
  clear h hop ha hk
  by_cases hnm : IsName a.name
  · have HNM := Lib.hid hnm
    rw [rName_yes hnm] at GNAME
    cases hf : rFind l a.id with
    | none =>
      have HE := Lib.hid (rDo_m2 HK.out hnm hf)
      rw [hf] at GAT
      clear hnm hf hm
      unfold actCells
      go_enter Try.func31, Try.ntmps31
      obtain ⟨q0, q1, q2, q3, q4, q5⟩ := act_row_at HR.out
      rw [← HW1.out] at q0 q1 q2 q3 q4 q5
      go_wp2_with fail
      rw [HW1.out]
      rw [HW1.out] at q0 q1 q2 q3 q4 q5
      refine (GNAME.out w1 (HBA.out.trans (HB1.out.mono HBA.out.size))).mono ?_
      rintro e w2 ⟨rfl, hb⟩
      have HB2 := Lib.hid (HB1.out.trans (hb.mono HB1.out.size))
      clear hb q0 q1 q2 q3 q4 q5
      obtain ⟨q0, q1, q2, q3, q4, q5⟩ := act_row_at (HR.out.of_block (HB2.out.block _ HR.out.lt))
      go_wp2_with fail
      refine (GAT.out w2 (HBA.out.trans (HB2.out.mono HBA.out.size))).mono ?_
      rintro e w3 ⟨rfl, hb⟩
      have HB3 := Lib.hid (HB2.out.trans (hb.mono HB2.out.size))
      clear hb q0 q1 q2 q3 q4 q5
      obtain ⟨q0, q1, q2, q3, q4, q5⟩ := act_row_at (HR.out.of_block (HB3.out.block _ HR.out.lt))
      go_wp2
      go_ret
      exact doRes_of HE.out rfl (HTW.out _ (HBA.out.trans (HB3.out.mono HBA.out.size))) (Only.of_below (HBA.out.trans (HB3.out.mono HBA.out.size)))
    | some k =>
      obtain ⟨hkl, hki, _⟩ := rFind_some hf
      have hid : 1 ≤ a.id := by rw [← hki]; exact hm.pos (List.getElem_mem hkl)
      rw [hf, srt_at hm.srt hf] at GAT
      obtain ⟨u, HU⟩ : ∃ u, Hid (rUp l a.parent 0 = u) := ⟨_, Lib.hid rfl⟩
      rw [HU.out] at GINTO
      by_cases hu : u = 0
      · have hup : rUp l a.parent 0 = 0 := by rw [HU.out, hu]
        have hpar : a.parent = 0 ∨ ∃ q ∈ l, q.id = a.parent := by
          rcases rUp_inv hup with h6 | ⟨q, hq, e, _⟩
          · exact .inl h6
          · exact .inr ⟨q, hq, e⟩
        have hol := hm.on_line hid hpar
        obtain ⟨R, HLR⟩ : ∃ x, Hid (lineF l l.length a.parent [] = x) := ⟨_, Lib.hid rfl⟩
        have HOL : Hid (((R.getD []).any fun y => decide (y.id = a.id)) = onLine l a.parent a.id) := by show _ = _; unfold onLine; rw [HLR.out]
        have HRL : Hid ((R.getD []).length ≤ 1048576) := by
          show _ ≤ _
          cases hR : R with
          | none => exact Nat.zero_le _
          | some r =>
            have h1 := HLR.out
            rw [hR] at h1
            obtain ⟨s, _, hs⟩ := line_len h1
            show r.length ≤ _
            simp at hs
            omega
        rw [HLR.out] at GLINE
        have GCON := Lib.hid (fun (A : Option Addr) (c : Nat) (w' : World) (hb : w.heap.size < w'.heap.size) (hc : w'.cell? ⟨w.heap.size, 1, none⟩ = some (.int .i64 a.id)) (hA : NodesAt w' A (R.getD [])) => contains_any A c (R.getD []) w.heap.size a.id w' hb hc hA HRL.out)
        rw [HOL.out] at GCON
        have HRA := Lib.hid HLR
        clear HLR HOL HRL
        cases ho : onLine l a.parent a.id with
        | true =>
          have hp0 : a.parent ≠ 0 := by
            intro e
            rw [e] at ho
            unfold onLine at ho
            rw [lineF_root] at ho
            cases ho
          have e10 := rUp_cyc hid hp0 hup (by rw [← hol, ho])
          have HE : Hid (rDo l a = (l, 10)) := by
            have e := rPlace_up (name := a.name) e10 (by decide)
            show _ = _
            rw [rDo_m3 HK.out hnm hf (by rw [e]; decide), e]
          rw [ho] at GCON
          subst hu
          clear hnm hf hm hup hpar hol ho hp0 e10
          unfold actCells
          go_enter Try.func31, Try.ntmps31
          obtain ⟨q0, q1, q2, q3, q4, q5⟩ := act_row_at HR.out
          rw [← HW1.out] at q0 q1 q2 q3 q4 q5
          go_wp2_with fail
          rw [HW1.out]
          rw [HW1.out] at q0 q1 q2 q3 q4 q5
          refine (GNAME.out w1 (HBA.out.trans (HB1.out.mono HBA.out.size))).mono ?_
          rintro e w2 ⟨rfl, hb⟩
          have HB2 := Lib.hid (HB1.out.trans (hb.mono HB1.out.size))
          clear hb q0 q1 q2 q3 q4 q5
          obtain ⟨q0, q1, q2, q3, q4, q5⟩ := act_row_at (HR.out.of_block (HB2.out.block _ HR.out.lt))
          go_wp2_with fail
          refine (GAT.out w2 (HBA.out.trans (HB2.out.mono HBA.out.size))).mono ?_
          rintro e w3 ⟨rfl, hb⟩
          have HB3 := Lib.hid (HB2.out.trans (hb.mono HB2.out.size))
          clear hb q0 q1 q2 q3 q4 q5
          obtain ⟨q0, q1, q2, q3, q4, q5⟩ := act_row_at (HR.out.of_block (HB3.out.block _ HR.out.lt))
          go_wp2_with fail
          refine (GINTO.out w3 (HBA.out.trans (HB3.out.mono HBA.out.size))).mono ?_
          rintro e w4 ⟨rfl, hb⟩
          have HB4 := Lib.hid (HB3.out.trans (hb.mono HB3.out.size))
          clear hb q0 q1 q2 q3 q4 q5
          obtain ⟨q0, q1, q2, q3, q4, q5⟩ := act_row_at (HR.out.of_block (HB4.out.block _ HR.out.lt))
          go_wp2_with fail
          refine (GLINE.out w4 (HBA.out.trans (HB4.out.mono HBA.out.size))).mono ?_
          rintro e w5 ⟨A, c, rfl, hln, hb⟩
          have HB5 := Lib.hid (HB4.out.trans (hb.mono HB4.out.size))
          have HLN := Lib.hid hln.nodes.1
          clear hln
          clear hb q0 q1 q2 q3 q4 q5
          obtain ⟨q0, q1, q2, q3, q4, q5⟩ := act_row_at (HR.out.of_block (HB5.out.block _ HR.out.lt))
          go_wp2_with fail
          refine (GCON.out A c w5 (Nat.lt_of_lt_of_le HR.out.lt HB5.out.size) q1 HLN.out).mono ?_
          rintro e w6 ⟨rfl, hb⟩
          have HB6 := Lib.hid (HB5.out.trans (hb.mono HB5.out.size))
          clear hb q0 q1 q2 q3 q4 q5
          obtain ⟨q0, q1, q2, q3, q4, q5⟩ := act_row_at (HR.out.of_block (HB6.out.block _ HR.out.lt))
          go_wp2
          go_ret
          exact doRes_of HE.out rfl (HTW.out _ (HBA.out.trans (HB6.out.mono HBA.out.size))) (Only.of_below (HBA.out.trans (HB6.out.mono HBA.out.size)))
        | false =>
          have e0 : rUp l a.parent a.id = 0 := rUp_go hup fun _ => by rw [← hol, ho]
          rw [ho] at GCON
          subst hu
          by_cases hc : chB l a.parent a.name = true
          · obtain ⟨hc1, hc2⟩ := hm.ch_pos hc
            by_cases hci : rChild l a.parent a.name = a.id
            · have HPL : Hid (rPlace l a.parent a.name a.id = 0) := rPlace_ok e0 (.inr hci)
              have HE := Lib.hid (rDo_m4 HK.out hnm hkl hf HPL.out)
              rw [hc, hc2, hci] at GCH
              have en : (a.id != a.id) = false := by simp
              clear hnm hf hup hpar hol ho e0 hc hc1 hc2 hci
              unfold actCells
              go_enter Try.func31, Try.ntmps31
              obtain ⟨q0, q1, q2, q3, q4, q5⟩ := act_row_at HR.out
              rw [← HW1.out] at q0 q1 q2 q3 q4 q5
              go_wp2_with fail
              rw [HW1.out]
              rw [HW1.out] at q0 q1 q2 q3 q4 q5
              refine (GNAME.out w1 (HBA.out.trans (HB1.out.mono HBA.out.size))).mono ?_
              rintro e w2 ⟨rfl, hb⟩
              have HB2 := Lib.hid (HB1.out.trans (hb.mono HB1.out.size))
              clear hb q0 q1 q2 q3 q4 q5
              obtain ⟨q0, q1, q2, q3, q4, q5⟩ := act_row_at (HR.out.of_block (HB2.out.block _ HR.out.lt))
              go_wp2_with fail
              refine (GAT.out w2 (HBA.out.trans (HB2.out.mono HBA.out.size))).mono ?_
              rintro e w3 ⟨rfl, hb⟩
              have HB3 := Lib.hid (HB2.out.trans (hb.mono HB2.out.size))
              clear hb q0 q1 q2 q3 q4 q5
              obtain ⟨q0, q1, q2, q3, q4, q5⟩ := act_row_at (HR.out.of_block (HB3.out.block _ HR.out.lt))
              go_wp2_with fail
              refine (GINTO.out w3 (HBA.out.trans (HB3.out.mono HBA.out.size))).mono ?_
              rintro e w4 ⟨rfl, hb⟩
              have HB4 := Lib.hid (HB3.out.trans (hb.mono HB3.out.size))
              clear hb q0 q1 q2 q3 q4 q5
              obtain ⟨q0, q1, q2, q3, q4, q5⟩ := act_row_at (HR.out.of_block (HB4.out.block _ HR.out.lt))
              go_wp2_with fail
              refine (GLINE.out w4 (HBA.out.trans (HB4.out.mono HBA.out.size))).mono ?_
              rintro e w5 ⟨A, c, rfl, hln, hb⟩
              have HB5 := Lib.hid (HB4.out.trans (hb.mono HB4.out.size))
              have HLN := Lib.hid hln.nodes.1
              clear hln
              clear hb q0 q1 q2 q3 q4 q5
              obtain ⟨q0, q1, q2, q3, q4, q5⟩ := act_row_at (HR.out.of_block (HB5.out.block _ HR.out.lt))
              go_wp2_with fail
              refine (GCON.out A c w5 (Nat.lt_of_lt_of_le HR.out.lt HB5.out.size) q1 HLN.out).mono ?_
              rintro e w6 ⟨rfl, hb⟩
              have HB6 := Lib.hid (HB5.out.trans (hb.mono HB5.out.size))
              clear hb q0 q1 q2 q3 q4 q5
              obtain ⟨q0, q1, q2, q3, q4, q5⟩ := act_row_at (HR.out.of_block (HB6.out.block _ HR.out.lt))
              go_wp2_with fail
              refine (GCH.out w6 (HBA.out.trans (HB6.out.mono HBA.out.size))).mono ?_
              rintro e w7 ⟨rfl, hb⟩
              have HB7 := Lib.hid (HB6.out.trans (hb.mono HB6.out.size))
              clear hb q0 q1 q2 q3 q4 q5
              obtain ⟨q0, q1, q2, q3, q4, q5⟩ := act_row_at (HR.out.of_block (HB7.out.block _ HR.out.lt))
              obtain ⟨At, ct, hr, hn⟩ := HTW.out w7 (HBA.out.trans (HB7.out.mono HBA.out.size))
              have k0 := hr.cell (i := 0) (by omega)
              obtain ⟨bt, ot, rfl, _⟩ := hn.1.form (by omega)
              obtain ⟨d0, d1, d2, d3, d4⟩ := hn.1.at_ hkl
              clear hr hn
              have hkI : (k : Int) < (l.length : Int) := by omega
              have HYN : Hid (Slim l) := hm.slim
              have HYK := Lib.hid (List.getElem_mem hkl)
              have GPUT := Lib.hid (fun (y : NodeV) (w' : World) (A : Option Addr) (c : Nat) (ht : TreeAt w' g l) (hn : NodesAt w' A [y]) => put_any g l [y] A c k (k + 1) (by omega) (by omega) (by simp; omega) w' ht hn)
              have HSP := Lib.hid (fun y => spl_set l hkl y)
              clear hm hki
              generalize l[k] = y at d0 d1 d2 d3 d4 HE HYK
              have HNR := Lib.hid (node_row0 w7 y)
              unfold nodeCells at HNR
              simp only [List.toArray] at HNR
              have HBN := Lib.hid ((Below.refl w7.heap.size w7).alloc (Nat.le_refl _) (.cells #[.int .i64 y.id, .int .i64 y.parent, .string (bstr y.name), .bool y.dir, .string (bstr y.text)] 57))
              obtain ⟨n0, HN0⟩ : ∃ x, Hid (w7.heap.size = x) := ⟨_, Lib.hid rfl⟩
              obtain ⟨w8, HWN⟩ : ∃ x, Hid (w7.alloc (.cells #[.int .i64 y.id, .int .i64 y.parent, .string (bstr y.name), .bool y.dir, .string (bstr y.text)] 57) = x) := ⟨_, Lib.hid rfl⟩
              rw [HWN.out] at HNR HBN
              rw [HN0.out] at HNR
              have HB8 := Lib.hid (HB7.out.trans (HBN.out.mono HB7.out.size))
              have HGN : Hid (w.heap.size < n0) := by show _ < _; rw [← HN0.out]; exact Nat.lt_of_lt_of_le HR.out.lt HB7.out.size
              go_wp2_with fail
              rw [HWN.out, HN0.out]
              clear q0 q1 q2 q3 q4 q5 k0 d0 d1 d2 d3 d4
              have HRK : ∀ e : ExtK (keepBlocks [w.heap.size]) w8.drew, Hid (e.val.rowIs w.heap.size 26 6 (actF a)) := fun e => (HR.out.of_block (HB8.out.block _ HR.out.lt)).drew.of_block (e.property.2 _ (by simp))
              have z2 := fun e => (act_row_at (HRK e).out).2.2.1
              have z3 := fun e => (act_row_at (HRK e).out).2.2.2.1
              refine wp_region_held_lit (keepBlocks [w.heap.size]) [(0, true), (1, true), (2, true), (3, true), (5, true), (4, false), (6, false), (7, true), (8, false)] (by kernel_rfl) (by kernel_rfl) (fun _ _ d _ _ h => by cases d <;> exact h) ?_
              simp only [picked, List.map_cons, List.map_nil, List.getElem?_cons_succ, List.getElem?_cons_zero, Option.getD_some]
              repeat (refine wpH_quiet (by rfl) (fun K hK => ?_); go_big_quiet_op; refine hK _ ?_; clear hK K)
              clear HRK z2 z3
              refine wpH_one (by rfl) (fun K hK => ?_)
              go_simp
              refine (GCL.out w8.drew).mono ?_
              rintro e w9 ⟨rfl, hb⟩
              have HBX : Hid (Below w8.heap.size w8 w9) := ((Below.refl _ _).drew.trans hb)
              have HB9 := Lib.hid (HB8.out.trans (HBX.out.mono HB8.out.size))
              have HLT : Hid (w.heap.size < w8.heap.size) := Nat.lt_of_lt_of_le HR.out.lt HB8.out.size
              refine hK _ _ (keep_one hb.size (hb.block _ HLT.out)) ?_
              clear hK K hb
              have HNR2 := Lib.hid (HNR.out.of_block (HBX.out.block _ HNR.out.lt))
              have v1 := (node_row_at HNR2.out).2.1
              have f1 := HNR2.out.frozen 1
              refine wpH_one (by rfl) (fun K hK => ?_)
              go_simp
              refine hK _ _ (keep_one (by simp) (Below.heap_setCell w9 ⟨n0, 1, none⟩ _ w.heap.size (by have := HGN.out; show w.heap.size ≠ n0; omega))) ?_
              clear hK K v1 f1
              have HNR3 := Lib.hid (HNR2.out.set 1 (.int .i64 a.parent))
              have v2 : (w9.setCell ⟨n0, 1, none⟩ (.int .i64 a.parent)).cell? ⟨n0, 2, none⟩ = some (.string (bstr y.name)) := (HNR3.out.cell (i := 2) (by omega)).trans rfl
              have f2 := HNR3.out.frozen 2
              refine wpH_quiet (by rfl) (fun K hK => ?_)
              go_big_quiet_op
              refine hK _ ?_
              clear hK K
              refine wpH_one (by rfl) (fun K hK => ?_)
              go_simp
              refine hK _ _ (keep_one (by simp) (Below.heap_setCell _ ⟨n0, 2, none⟩ _ w.heap.size (by have := HGN.out; show w.heap.size ≠ n0; omega))) ?_
              clear hK K v2 f2
              refine wpH_nil ?_
              have HNR4 := Lib.hid (node_row_move a.parent a.name HNR2.out)
              have HB10 : Hid (Below w1.heap.size w1 ((w9.setCell ⟨n0, 1, none⟩ (.int .i64 a.parent)).setCell ⟨n0, 2, none⟩ (.string (bstr a.name)))) := (HB9.out.setCell (p := ⟨n0, 1, none⟩) (by have := HB7.out.size; have := HN0.out; show w1.heap.size ≤ n0; omega) _).setCell (p := ⟨n0, 2, none⟩) (by have := HB7.out.size; have := HN0.out; show w1.heap.size ≤ n0; omega) _
              generalize (w9.setCell ⟨n0, 1, none⟩ (.int .i64 a.parent)).setCell ⟨n0, 2, none⟩ (.string (bstr a.name)) = w10 at HNR4 HB10 ⊢
              obtain ⟨v0, v1, v2, v3, v4⟩ := node_row_at HNR4.out
              simp only at v0 v1 v2 v3 v4
              have HBZ : Hid (Below w.heap.size w w10) := HBA.out.trans (HB10.out.mono HBA.out.size)
              have HND : Hid (NodesAt (w10.alloc (.cells (nodeCells ⟨y.id, a.parent, a.name, y.dir, y.text⟩).toArray 57)) (some ⟨w10.heap.size, 0, none⟩) [⟨y.id, a.parent, a.name, y.dir, y.text⟩]) := node_lit w10 _ _ rfl
              have HBY : Hid (Below w.heap.size w (w10.alloc (.cells (nodeCells ⟨y.id, a.parent, a.name, y.dir, y.text⟩).toArray 57))) := HBZ.out.trans ((Below.refl _ _).alloc HBZ.out.size _)
              go_wp2_with fail
              refine (GPUT.out ⟨y.id, a.parent, a.name, y.dir, y.text⟩ _ _ 1 (HTW.out _ HBY.out) HND.out).mono ?_
              rintro e w11 ⟨rfl, ht, ho⟩
              have HFT := Lib.hid ht
              have HFO : Hid (Only g w w11) := (Only.of_below HBY.out).trans ho
              clear ht ho
              go_wp2
              go_ret
              refine doRes_of HE.out rfl ?_ HFO.out
              have := HFT.out
              rw [HSP.out] at this
              exact this
            · have HE : Hid (rDo l a = (l, 6)) := by
                have e := rPlace_there e0 (by omega : 0 ≤ rChild l a.parent a.name) hci
                show _ = _
                rw [rDo_m3 HK.out hnm hf (by rw [e]; decide), e]
              obtain ⟨ci, HCI⟩ : ∃ x, Hid (rChild l a.parent a.name = x) := ⟨_, Lib.hid rfl⟩
              rw [hc, hc2, HCI.out] at GCH
              have en : (ci != a.id) = true := by rw [← HCI.out]; exact bne_iff_ne.2 hci
              clear hnm hf hm hup hpar hol ho e0 hc hc1 hc2 hci
              unfold actCells
              go_enter Try.func31, Try.ntmps31
              obtain ⟨q0, q1, q2, q3, q4, q5⟩ := act_row_at HR.out
              rw [← HW1.out] at q0 q1 q2 q3 q4 q5
              go_wp2_with fail
              rw [HW1.out]
              rw [HW1.out] at q0 q1 q2 q3 q4 q5
              refine (GNAME.out w1 (HBA.out.trans (HB1.out.mono HBA.out.size))).mono ?_
              rintro e w2 ⟨rfl, hb⟩
              have HB2 := Lib.hid (HB1.out.trans (hb.mono HB1.out.size))
              clear hb q0 q1 q2 q3 q4 q5
              obtain ⟨q0, q1, q2, q3, q4, q5⟩ := act_row_at (HR.out.of_block (HB2.out.block _ HR.out.lt))
              go_wp2_with fail
              refine (GAT.out w2 (HBA.out.trans (HB2.out.mono HBA.out.size))).mono ?_
              rintro e w3 ⟨rfl, hb⟩
              have HB3 := Lib.hid (HB2.out.trans (hb.mono HB2.out.size))
              clear hb q0 q1 q2 q3 q4 q5
              obtain ⟨q0, q1, q2, q3, q4, q5⟩ := act_row_at (HR.out.of_block (HB3.out.block _ HR.out.lt))
              go_wp2_with fail
              refine (GINTO.out w3 (HBA.out.trans (HB3.out.mono HBA.out.size))).mono ?_
              rintro e w4 ⟨rfl, hb⟩
              have HB4 := Lib.hid (HB3.out.trans (hb.mono HB3.out.size))
              clear hb q0 q1 q2 q3 q4 q5
              obtain ⟨q0, q1, q2, q3, q4, q5⟩ := act_row_at (HR.out.of_block (HB4.out.block _ HR.out.lt))
              go_wp2_with fail
              refine (GLINE.out w4 (HBA.out.trans (HB4.out.mono HBA.out.size))).mono ?_
              rintro e w5 ⟨A, c, rfl, hln, hb⟩
              have HB5 := Lib.hid (HB4.out.trans (hb.mono HB4.out.size))
              have HLN := Lib.hid hln.nodes.1
              clear hln
              clear hb q0 q1 q2 q3 q4 q5
              obtain ⟨q0, q1, q2, q3, q4, q5⟩ := act_row_at (HR.out.of_block (HB5.out.block _ HR.out.lt))
              go_wp2_with fail
              refine (GCON.out A c w5 (Nat.lt_of_lt_of_le HR.out.lt HB5.out.size) q1 HLN.out).mono ?_
              rintro e w6 ⟨rfl, hb⟩
              have HB6 := Lib.hid (HB5.out.trans (hb.mono HB5.out.size))
              clear hb q0 q1 q2 q3 q4 q5
              obtain ⟨q0, q1, q2, q3, q4, q5⟩ := act_row_at (HR.out.of_block (HB6.out.block _ HR.out.lt))
              go_wp2_with fail
              refine (GCH.out w6 (HBA.out.trans (HB6.out.mono HBA.out.size))).mono ?_
              rintro e w7 ⟨rfl, hb⟩
              have HB7 := Lib.hid (HB6.out.trans (hb.mono HB6.out.size))
              clear hb q0 q1 q2 q3 q4 q5
              obtain ⟨q0, q1, q2, q3, q4, q5⟩ := act_row_at (HR.out.of_block (HB7.out.block _ HR.out.lt))
              go_wp2
              go_ret
              exact doRes_of HE.out rfl (HTW.out _ (HBA.out.trans (HB7.out.mono HBA.out.size))) (Only.of_below (HBA.out.trans (HB7.out.mono HBA.out.size)))
          · have HPL : Hid (rPlace l a.parent a.name a.id = 0) := rPlace_ok e0 (.inl (ch_none hc))
            have HE := Lib.hid (rDo_m4 HK.out hnm hkl hf HPL.out)
            rw [Bool.not_eq_true] at hc
            rw [hc] at GCH
            clear hnm hf hup hpar hol ho e0 hc
            unfold actCells
            go_enter Try.func31, Try.ntmps31
            obtain ⟨q0, q1, q2, q3, q4, q5⟩ := act_row_at HR.out
            rw [← HW1.out] at q0 q1 q2 q3 q4 q5
            go_wp2_with fail
            rw [HW1.out]
            rw [HW1.out] at q0 q1 q2 q3 q4 q5
            refine (GNAME.out w1 (HBA.out.trans (HB1.out.mono HBA.out.size))).mono ?_
            rintro e w2 ⟨rfl, hb⟩
            have HB2 := Lib.hid (HB1.out.trans (hb.mono HB1.out.size))
            clear hb q0 q1 q2 q3 q4 q5
            obtain ⟨q0, q1, q2, q3, q4, q5⟩ := act_row_at (HR.out.of_block (HB2.out.block _ HR.out.lt))
            go_wp2_with fail
            refine (GAT.out w2 (HBA.out.trans (HB2.out.mono HBA.out.size))).mono ?_
            rintro e w3 ⟨rfl, hb⟩
            have HB3 := Lib.hid (HB2.out.trans (hb.mono HB2.out.size))
            clear hb q0 q1 q2 q3 q4 q5
            obtain ⟨q0, q1, q2, q3, q4, q5⟩ := act_row_at (HR.out.of_block (HB3.out.block _ HR.out.lt))
            go_wp2_with fail
            refine (GINTO.out w3 (HBA.out.trans (HB3.out.mono HBA.out.size))).mono ?_
            rintro e w4 ⟨rfl, hb⟩
            have HB4 := Lib.hid (HB3.out.trans (hb.mono HB3.out.size))
            clear hb q0 q1 q2 q3 q4 q5
            obtain ⟨q0, q1, q2, q3, q4, q5⟩ := act_row_at (HR.out.of_block (HB4.out.block _ HR.out.lt))
            go_wp2_with fail
            refine (GLINE.out w4 (HBA.out.trans (HB4.out.mono HBA.out.size))).mono ?_
            rintro e w5 ⟨A, c, rfl, hln, hb⟩
            have HB5 := Lib.hid (HB4.out.trans (hb.mono HB4.out.size))
            have HLN := Lib.hid hln.nodes.1
            clear hln
            clear hb q0 q1 q2 q3 q4 q5
            obtain ⟨q0, q1, q2, q3, q4, q5⟩ := act_row_at (HR.out.of_block (HB5.out.block _ HR.out.lt))
            go_wp2_with fail
            refine (GCON.out A c w5 (Nat.lt_of_lt_of_le HR.out.lt HB5.out.size) q1 HLN.out).mono ?_
            rintro e w6 ⟨rfl, hb⟩
            have HB6 := Lib.hid (HB5.out.trans (hb.mono HB5.out.size))
            clear hb q0 q1 q2 q3 q4 q5
            obtain ⟨q0, q1, q2, q3, q4, q5⟩ := act_row_at (HR.out.of_block (HB6.out.block _ HR.out.lt))
            go_wp2_with fail
            refine (GCH.out w6 (HBA.out.trans (HB6.out.mono HBA.out.size))).mono ?_
            rintro e w7 ⟨rfl, hb⟩
            have HB7 := Lib.hid (HB6.out.trans (hb.mono HB6.out.size))
            clear hb q0 q1 q2 q3 q4 q5
            obtain ⟨q0, q1, q2, q3, q4, q5⟩ := act_row_at (HR.out.of_block (HB7.out.block _ HR.out.lt))
            obtain ⟨At, ct, hr, hn⟩ := HTW.out w7 (HBA.out.trans (HB7.out.mono HBA.out.size))
            have k0 := hr.cell (i := 0) (by omega)
            obtain ⟨bt, ot, rfl, _⟩ := hn.1.form (by omega)
            obtain ⟨d0, d1, d2, d3, d4⟩ := hn.1.at_ hkl
            clear hr hn
            have hkI : (k : Int) < (l.length : Int) := by omega
            have HYN : Hid (Slim l) := hm.slim
            have HYK := Lib.hid (List.getElem_mem hkl)
            have GPUT := Lib.hid (fun (y : NodeV) (w' : World) (A : Option Addr) (c : Nat) (ht : TreeAt w' g l) (hn : NodesAt w' A [y]) => put_any g l [y] A c k (k + 1) (by omega) (by omega) (by simp; omega) w' ht hn)
            have HSP := Lib.hid (fun y => spl_set l hkl y)
            clear hm hki
            generalize l[k] = y at d0 d1 d2 d3 d4 HE HYK
            have HNR := Lib.hid (node_row0 w7 y)
            unfold nodeCells at HNR
            simp only [List.toArray] at HNR
            have HBN := Lib.hid ((Below.refl w7.heap.size w7).alloc (Nat.le_refl _) (.cells #[.int .i64 y.id, .int .i64 y.parent, .string (bstr y.name), .bool y.dir, .string (bstr y.text)] 57))
            obtain ⟨n0, HN0⟩ : ∃ x, Hid (w7.heap.size = x) := ⟨_, Lib.hid rfl⟩
            obtain ⟨w8, HWN⟩ : ∃ x, Hid (w7.alloc (.cells #[.int .i64 y.id, .int .i64 y.parent, .string (bstr y.name), .bool y.dir, .string (bstr y.text)] 57) = x) := ⟨_, Lib.hid rfl⟩
            rw [HWN.out] at HNR HBN
            rw [HN0.out] at HNR
            have HB8 := Lib.hid (HB7.out.trans (HBN.out.mono HB7.out.size))
            have HGN : Hid (w.heap.size < n0) := by show _ < _; rw [← HN0.out]; exact Nat.lt_of_lt_of_le HR.out.lt HB7.out.size
            go_wp2_with fail
            rw [HWN.out, HN0.out]
            clear q0 q1 q2 q3 q4 q5 k0 d0 d1 d2 d3 d4
            have HRK : ∀ e : ExtK (keepBlocks [w.heap.size]) w8.drew, Hid (e.val.rowIs w.heap.size 26 6 (actF a)) := fun e => (HR.out.of_block (HB8.out.block _ HR.out.lt)).drew.of_block (e.property.2 _ (by simp))
            have z2 := fun e => (act_row_at (HRK e).out).2.2.1
            have z3 := fun e => (act_row_at (HRK e).out).2.2.2.1
            refine wp_region_held_lit (keepBlocks [w.heap.size]) [(0, true), (1, true), (2, true), (3, true), (5, true), (4, false), (6, false), (7, true), (8, false)] (by kernel_rfl) (by kernel_rfl) (fun _ _ d _ _ h => by cases d <;> exact h) ?_
            simp only [picked, List.map_cons, List.map_nil, List.getElem?_cons_succ, List.getElem?_cons_zero, Option.getD_some]
            repeat (refine wpH_quiet (by rfl) (fun K hK => ?_); go_big_quiet_op; refine hK _ ?_; clear hK K)
            clear HRK z2 z3
            refine wpH_one (by rfl) (fun K hK => ?_)
            go_simp
            refine (GCL.out w8.drew).mono ?_
            rintro e w9 ⟨rfl, hb⟩
            have HBX : Hid (Below w8.heap.size w8 w9) := ((Below.refl _ _).drew.trans hb)
            have HB9 := Lib.hid (HB8.out.trans (HBX.out.mono HB8.out.size))
            have HLT : Hid (w.heap.size < w8.heap.size) := Nat.lt_of_lt_of_le HR.out.lt HB8.out.size
            refine hK _ _ (keep_one hb.size (hb.block _ HLT.out)) ?_
            clear hK K hb
            have HNR2 := Lib.hid (HNR.out.of_block (HBX.out.block _ HNR.out.lt))
            have v1 := (node_row_at HNR2.out).2.1
            have f1 := HNR2.out.frozen 1
            refine wpH_one (by rfl) (fun K hK => ?_)
            go_simp
            refine hK _ _ (keep_one (by simp) (Below.heap_setCell w9 ⟨n0, 1, none⟩ _ w.heap.size (by have := HGN.out; show w.heap.size ≠ n0; omega))) ?_
            clear hK K v1 f1
            have HNR3 := Lib.hid (HNR2.out.set 1 (.int .i64 a.parent))
            have v2 : (w9.setCell ⟨n0, 1, none⟩ (.int .i64 a.parent)).cell? ⟨n0, 2, none⟩ = some (.string (bstr y.name)) := (HNR3.out.cell (i := 2) (by omega)).trans rfl
            have f2 := HNR3.out.frozen 2
            refine wpH_quiet (by rfl) (fun K hK => ?_)
            go_big_quiet_op
            refine hK _ ?_
            clear hK K
            refine wpH_one (by rfl) (fun K hK => ?_)
            go_simp
            refine hK _ _ (keep_one (by simp) (Below.heap_setCell _ ⟨n0, 2, none⟩ _ w.heap.size (by have := HGN.out; show w.heap.size ≠ n0; omega))) ?_
            clear hK K v2 f2
            refine wpH_nil ?_
            have HNR4 := Lib.hid (node_row_move a.parent a.name HNR2.out)
            have HB10 : Hid (Below w1.heap.size w1 ((w9.setCell ⟨n0, 1, none⟩ (.int .i64 a.parent)).setCell ⟨n0, 2, none⟩ (.string (bstr a.name)))) := (HB9.out.setCell (p := ⟨n0, 1, none⟩) (by have := HB7.out.size; have := HN0.out; show w1.heap.size ≤ n0; omega) _).setCell (p := ⟨n0, 2, none⟩) (by have := HB7.out.size; have := HN0.out; show w1.heap.size ≤ n0; omega) _
            generalize (w9.setCell ⟨n0, 1, none⟩ (.int .i64 a.parent)).setCell ⟨n0, 2, none⟩ (.string (bstr a.name)) = w10 at HNR4 HB10 ⊢
            obtain ⟨v0, v1, v2, v3, v4⟩ := node_row_at HNR4.out
            simp only at v0 v1 v2 v3 v4
            have HBZ : Hid (Below w.heap.size w w10) := HBA.out.trans (HB10.out.mono HBA.out.size)
            have HND : Hid (NodesAt (w10.alloc (.cells (nodeCells ⟨y.id, a.parent, a.name, y.dir, y.text⟩).toArray 57)) (some ⟨w10.heap.size, 0, none⟩) [⟨y.id, a.parent, a.name, y.dir, y.text⟩]) := node_lit w10 _ _ rfl
            have HBY : Hid (Below w.heap.size w (w10.alloc (.cells (nodeCells ⟨y.id, a.parent, a.name, y.dir, y.text⟩).toArray 57))) := HBZ.out.trans ((Below.refl _ _).alloc HBZ.out.size _)
            go_wp2_with fail
            refine (GPUT.out ⟨y.id, a.parent, a.name, y.dir, y.text⟩ _ _ 1 (HTW.out _ HBY.out) HND.out).mono ?_
            rintro e w11 ⟨rfl, ht, ho⟩
            have HFT := Lib.hid ht
            have HFO : Hid (Only g w w11) := (Only.of_below HBY.out).trans ho
            clear ht ho
            go_wp2
            go_ret
            refine doRes_of HE.out rfl ?_ HFO.out
            have := HFT.out
            rw [HSP.out] at this
            exact this
      · have e1 := rUp_any a.id HU.out hu
        have HE : Hid (rDo l a = (l, u)) := by
          have e := rPlace_up (name := a.name) e1 hu
          show _ = _
          rw [rDo_m3 HK.out hnm hf (by rw [e]; exact hu), e]
        have eu : (u != 0) = true := bne_iff_ne.2 hu
        have eu2 : (u == 0) = false := beq_eq_false_iff_ne.2 hu
        clear hnm hf hm hu e1
        unfold actCells
        go_enter Try.func31, Try.ntmps31
        obtain ⟨q0, q1, q2, q3, q4, q5⟩ := act_row_at HR.out
        rw [← HW1.out] at q0 q1 q2 q3 q4 q5
        go_wp2_with fail
        rw [HW1.out]
        rw [HW1.out] at q0 q1 q2 q3 q4 q5
        refine (GNAME.out w1 (HBA.out.trans (HB1.out.mono HBA.out.size))).mono ?_
        rintro e w2 ⟨rfl, hb⟩
        have HB2 := Lib.hid (HB1.out.trans (hb.mono HB1.out.size))
        clear hb q0 q1 q2 q3 q4 q5
        obtain ⟨q0, q1, q2, q3, q4, q5⟩ := act_row_at (HR.out.of_block (HB2.out.block _ HR.out.lt))
        go_wp2_with fail
        refine (GAT.out w2 (HBA.out.trans (HB2.out.mono HBA.out.size))).mono ?_
        rintro e w3 ⟨rfl, hb⟩
        have HB3 := Lib.hid (HB2.out.trans (hb.mono HB2.out.size))
        clear hb q0 q1 q2 q3 q4 q5
        obtain ⟨q0, q1, q2, q3, q4, q5⟩ := act_row_at (HR.out.of_block (HB3.out.block _ HR.out.lt))
        go_wp2_with fail
        refine (GINTO.out w3 (HBA.out.trans (HB3.out.mono HBA.out.size))).mono ?_
        rintro e w4 ⟨rfl, hb⟩
        have HB4 := Lib.hid (HB3.out.trans (hb.mono HB3.out.size))
        clear hb q0 q1 q2 q3 q4 q5
        obtain ⟨q0, q1, q2, q3, q4, q5⟩ := act_row_at (HR.out.of_block (HB4.out.block _ HR.out.lt))
        go_wp2
        go_ret
        exact doRes_of HE.out rfl (HTW.out _ (HBA.out.trans (HB4.out.mono HBA.out.size))) (Only.of_below (HBA.out.trans (HB4.out.mono HBA.out.size)))
  · have HE := Lib.hid (rDo_m1 (l := l) HK.out hnm)
    rw [rName_no hnm] at GNAME
    clear hnm hm
    unfold actCells
    go_enter Try.func31, Try.ntmps31
    obtain ⟨q0, q1, q2, q3, q4, q5⟩ := act_row_at HR.out
    rw [← HW1.out] at q0 q1 q2 q3 q4 q5
    go_wp2_with fail
    rw [HW1.out]
    rw [HW1.out] at q0 q1 q2 q3 q4 q5
    refine (GNAME.out w1 (HBA.out.trans (HB1.out.mono HBA.out.size))).mono ?_
    rintro e w2 ⟨rfl, hb⟩
    have HB2 := Lib.hid (HB1.out.trans (hb.mono HB1.out.size))
    clear hb q0 q1 q2 q3 q4 q5
    obtain ⟨q0, q1, q2, q3, q4, q5⟩ := act_row_at (HR.out.of_block (HB2.out.block _ HR.out.lt))
    go_wp2
    go_ret
    exact doRes_of HE.out rfl (HTW.out _ (HBA.out.trans (HB2.out.mono HBA.out.size))) (Only.of_below (HBA.out.trans (HB2.out.mono HBA.out.size)))
end Go.Proofs.Ytmedaimndaaiiaa
