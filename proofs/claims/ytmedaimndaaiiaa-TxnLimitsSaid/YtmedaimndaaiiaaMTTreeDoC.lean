/- The landed tree: a directory, or an empty file, is made. Conditions: a tree, an act that may be. -/
import Derived.Test.YtmedaimndaaiiaaMSound
/- The landed tree: a directory, or an empty file, is made. Conditions: a tree, an act that may be. -/
namespace Go.Proofs.Ytmedaimndaaiiaa
open Go.RowKit Go.Deep

set_option maxHeartbeats 4000000 in
set_option maxRecDepth 100000 in
theorem create_any (g : Nat) (l : List NodeV) (a : ActV) (hm : TreeM l) (ha : ActOk a) (hk : a.kind = 1) (w : World) (h : TreeAt w g l) (hop : CompsAt w a.opsA a.ops) :
    Calls Try.prog 29 #[.pointer (some ⟨g, 0, none⟩), .agg (actCells a).toArray] w (DoRes w g l a) := by
  have HM := Lib.hid hm
  have HT := Lib.hid h
  have HA := Lib.hid ha
  have HOP := Lib.hid hop
  have hl := hm.len
  have HTW : Hid (∀ w', Below w.heap.size w w' → TreeAt w' g l) := fun w' hb => HT.out.below hb
  have HR := Lib.hid (act_row w a)
  have HBA := Lib.hid ((Below.refl w.heap.size w).alloc (Nat.le_refl _) (.cells #[.int .i64 a.kind, .int .i64 a.id, .int .i64 a.parent, .string (bstr a.name), .bool a.dir, .slice a.opsA a.ops.length a.opsC] 26))
  obtain ⟨w1, HW1⟩ : ∃ x, Hid (w.alloc (.cells #[.int .i64 a.kind, .int .i64 a.id, .int .i64 a.parent, .string (bstr a.name), .bool a.dir, .slice a.opsA a.ops.length a.opsC] 26) = x) := ⟨_, Lib.hid rfl⟩
  rw [HW1.out] at HR HBA
  have HB1 := Lib.hid (Below.refl w1.heap.size w1)
  have HGL : Hid (g < w.heap.size) := h.lt
  have GNUM := Lib.hid (fun (w' : World) (_ : Below w.heap.size w w') => number_any a.id w')
  have GNAME := Lib.hid (fun (w' : World) (_ : Below w.heap.size w w') => name_any a.name ha.1.2.2.2.1.1 (by have := ha.2.1; unfold maxLen; omega) w')
  have GAT := Lib.hid (fun (w' : World) (hb : Below w.heap.size w w') => at_any _ l a.id hm.srt (by omega) w' (HTW.out w' hb).ptr)
  have GINTO := Lib.hid (fun (w' : World) (hb : Below w.heap.size w w') => into_any g l a.parent hm.srt (by omega) w' (HTW.out w' hb))
  have GCH := Lib.hid (fun (w' : World) (hb : Below w.heap.size w w') => child_any _ l a.parent a.name (by omega) hm.good ha.1.2.2.2.1.1 w' (HTW.out w' hb).ptr)
  have GCL := Lib.hid (fun (w' : World) => clone_any a.name (by have := ha.2.1; omega) w')
  have HK := Lib.hid hk
  obtain ⟨k, HKA⟩ : ∃ k, Hid (rAt l a.id = k) := ⟨_, Lib.hid rfl⟩
  rw [HKA.out] at GAT
  have hkl : k ≤ l.length := by rw [← HKA.out]; exact rAt_le _ _
  have GPUT := Lib.hid (fun (w' : World) (A : Option Addr) (c : Nat) (ht : TreeAt w' g l) (hn : NodesAt w' A [newNode a]) => put_any g l [newNode a] A c k k hkl hkl (by simp; omega) w' ht hn)
  clear h hop ha hk
  by_cases hid : IdOk a.id
  · have HID := Lib.hid hid
    rw [decide_eq_true hid] at GNUM
    by_cases hnm : IsName a.name
    · have HNM := Lib.hid hnm
      rw [rName_yes hnm] at GNAME
      cases hf : rFind l a.id with
      | some j =>
        have HE := Lib.hid (rDo_c2 HK.out ⟨hid, hnm⟩ hf)
        rw [hf] at GAT
        clear hid hnm hf hm
        unfold actCells
        go_enter Try.func29, Try.ntmps29
        obtain ⟨q0, q1, q2, q3, q4, q5⟩ := act_row_at HR.out
        rw [← HW1.out] at q0 q1 q2 q3 q4 q5
        go_wp2_with fail
        rw [HW1.out]
        rw [HW1.out] at q0 q1 q2 q3 q4 q5
        refine (GNUM.out w1 HBA.out).mono ?_
        rintro e w2 ⟨rfl, rfl⟩
        clear q0 q1 q2 q3 q4 q5
        obtain ⟨q0, q1, q2, q3, q4, q5⟩ := act_row_at HR.out
        go_wp2_with fail
        refine (GNAME.out w1 (HBA.out.trans (HB1.out.mono HBA.out.size))).mono ?_
        rintro e w2 ⟨rfl, hb⟩
        have HB2 := Lib.hid (HB1.out.trans (hb.mono HB1.out.size))
        clear hb q0 q1 q2 q3 q4 q5
        obtain ⟨q0, q1, q2, q3, q4, q5⟩ := act_row_at (HR.out.of_block (HB2.out.block _ HR.out.lt))
        go_wp2_with fail
        refine (GAT.out w2 (HBA.out.trans (HB2.out.mono HBA.out.size))).mono ?_
        rintro e w3 ⟨rfl, hb⟩
        have HB3 := Lib.hid (HB2.out.trans (hb.mono HB2.out.size))
        clear hb q0 q1 q2 q3 q4 q5
        obtain ⟨q0, q1, q2, q3, q4, q5⟩ := act_row_at (HR.out.of_block (HB3.out.block _ HR.out.lt))
        go_wp2
        go_ret
        exact doRes_of HE.out rfl (HTW.out _ (HBA.out.trans (HB3.out.mono HBA.out.size))) (Only.of_below (HBA.out.trans (HB3.out.mono HBA.out.size)))
      | none =>
        have HF := Lib.hid hf
        rw [hf] at GAT
        obtain ⟨u, HU⟩ : ∃ u, Hid (rUp l a.parent 0 = u) := ⟨_, Lib.hid rfl⟩
        rw [HU.out] at GINTO
        by_cases hu : u = 0
        · by_cases hc : chB l a.parent a.name = true
          · have hcp := hm.ch_pos hc
            have HE : Hid (rDo l a = (l, 6)) := by
              have e := rPlace_there (id := 0) (by rw [HU.out, hu]) (by omega : 0 ≤ rChild l a.parent a.name) (by omega)
              show _ = _
              rw [rDo_c3 HK.out ⟨hid, hnm⟩ hf (by rw [e]; decide), e]
            rw [hc] at GCH
            subst hu
            clear hid hnm hf hm hc hcp
            unfold actCells
            go_enter Try.func29, Try.ntmps29
            obtain ⟨q0, q1, q2, q3, q4, q5⟩ := act_row_at HR.out
            rw [← HW1.out] at q0 q1 q2 q3 q4 q5
            go_wp2_with fail
            rw [HW1.out]
            rw [HW1.out] at q0 q1 q2 q3 q4 q5
            refine (GNUM.out w1 HBA.out).mono ?_
            rintro e w2 ⟨rfl, rfl⟩
            clear q0 q1 q2 q3 q4 q5
            obtain ⟨q0, q1, q2, q3, q4, q5⟩ := act_row_at HR.out
            go_wp2_with fail
            refine (GNAME.out w1 (HBA.out.trans (HB1.out.mono HBA.out.size))).mono ?_
            rintro e w2 ⟨rfl, hb⟩
            have HB2 := Lib.hid (HB1.out.trans (hb.mono HB1.out.size))
            clear hb q0 q1 q2 q3 q4 q5
            obtain ⟨q0, q1, q2, q3, q4, q5⟩ := act_row_at (HR.out.of_block (HB2.out.block _ HR.out.lt))
            go_wp2_with fail
            refine (GAT.out w2 (HBA.out.trans (HB2.out.mono HBA.out.size))).mono ?_
            rintro e w3 ⟨rfl, hb⟩
            have HB3 := Lib.hid (HB2.out.trans (hb.mono HB2.out.size))
            clear hb q0 q1 q2 q3 q4 q5
            obtain ⟨q0, q1, q2, q3, q4, q5⟩ := act_row_at (HR.out.of_block (HB3.out.block _ HR.out.lt))
            go_wp2_with fail
            refine (GINTO.out w3 (HBA.out.trans (HB3.out.mono HBA.out.size))).mono ?_
            rintro e w4 ⟨rfl, hb⟩
            have HB4 := Lib.hid (HB3.out.trans (hb.mono HB3.out.size))
            clear hb q0 q1 q2 q3 q4 q5
            obtain ⟨q0, q1, q2, q3, q4, q5⟩ := act_row_at (HR.out.of_block (HB4.out.block _ HR.out.lt))
            go_wp2_with fail
            refine (GCH.out w4 (HBA.out.trans (HB4.out.mono HBA.out.size))).mono ?_
            rintro e w5 ⟨rfl, hb⟩
            have HB5 := Lib.hid (HB4.out.trans (hb.mono HB4.out.size))
            clear hb q0 q1 q2 q3 q4 q5
            obtain ⟨q0, q1, q2, q3, q4, q5⟩ := act_row_at (HR.out.of_block (HB5.out.block _ HR.out.lt))
            go_wp2
            go_ret
            exact doRes_of HE.out rfl (HTW.out _ (HBA.out.trans (HB5.out.mono HBA.out.size))) (Only.of_below (HBA.out.trans (HB5.out.mono HBA.out.size)))
          · have HPL : Hid (rPlace l a.parent a.name 0 = 0) := rPlace_ok (by rw [HU.out, hu]) (.inl (ch_none hc))
            rw [Bool.not_eq_true] at hc
            rw [hc] at GCH
            subst hu
            by_cases h100 : l.length = 100
            · have HE := Lib.hid (rDo_c4 HK.out ⟨hid, hnm⟩ hf HPL.out (by omega))
              have e100 : ((l.length : Int) == 100) = true := beq_iff_eq.2 (by omega)
              clear hid hnm hf hm hc
              unfold actCells
              go_enter Try.func29, Try.ntmps29
              obtain ⟨q0, q1, q2, q3, q4, q5⟩ := act_row_at HR.out
              rw [← HW1.out] at q0 q1 q2 q3 q4 q5
              go_wp2_with fail
              rw [HW1.out]
              rw [HW1.out] at q0 q1 q2 q3 q4 q5
              refine (GNUM.out w1 HBA.out).mono ?_
              rintro e w2 ⟨rfl, rfl⟩
              clear q0 q1 q2 q3 q4 q5
              obtain ⟨q0, q1, q2, q3, q4, q5⟩ := act_row_at HR.out
              go_wp2_with fail
              refine (GNAME.out w1 (HBA.out.trans (HB1.out.mono HBA.out.size))).mono ?_
              rintro e w2 ⟨rfl, hb⟩
              have HB2 := Lib.hid (HB1.out.trans (hb.mono HB1.out.size))
              clear hb q0 q1 q2 q3 q4 q5
              obtain ⟨q0, q1, q2, q3, q4, q5⟩ := act_row_at (HR.out.of_block (HB2.out.block _ HR.out.lt))
              go_wp2_with fail
              refine (GAT.out w2 (HBA.out.trans (HB2.out.mono HBA.out.size))).mono ?_
              rintro e w3 ⟨rfl, hb⟩
              have HB3 := Lib.hid (HB2.out.trans (hb.mono HB2.out.size))
              clear hb q0 q1 q2 q3 q4 q5
              obtain ⟨q0, q1, q2, q3, q4, q5⟩ := act_row_at (HR.out.of_block (HB3.out.block _ HR.out.lt))
              go_wp2_with fail
              refine (GINTO.out w3 (HBA.out.trans (HB3.out.mono HBA.out.size))).mono ?_
              rintro e w4 ⟨rfl, hb⟩
              have HB4 := Lib.hid (HB3.out.trans (hb.mono HB3.out.size))
              clear hb q0 q1 q2 q3 q4 q5
              obtain ⟨q0, q1, q2, q3, q4, q5⟩ := act_row_at (HR.out.of_block (HB4.out.block _ HR.out.lt))
              go_wp2_with fail
              refine (GCH.out w4 (HBA.out.trans (HB4.out.mono HBA.out.size))).mono ?_
              rintro e w5 ⟨rfl, hb⟩
              have HB5 := Lib.hid (HB4.out.trans (hb.mono HB4.out.size))
              clear hb q0 q1 q2 q3 q4 q5
              obtain ⟨q0, q1, q2, q3, q4, q5⟩ := act_row_at (HR.out.of_block (HB5.out.block _ HR.out.lt))
              obtain ⟨At, ct, hr, hn⟩ := HTW.out w5 (HBA.out.trans (HB5.out.mono HBA.out.size))
              have k0 := hr.cell (i := 0) (by omega)
              clear hr hn
              go_wp2
              go_ret
              exact doRes_of HE.out rfl (HTW.out _ (HBA.out.trans (HB5.out.mono HBA.out.size))) (Only.of_below (HBA.out.trans (HB5.out.mono HBA.out.size)))
            · have HE := Lib.hid (rDo_c5 HK.out ⟨hid, hnm⟩ hf HPL.out (by omega))
              have e100 : ((l.length : Int) == 100) = false := beq_eq_false_iff_ne.2 (by omega)
              rw [HKA.out] at HE
              clear hid hnm hf hm hc h100
              unfold actCells
              go_enter Try.func29, Try.ntmps29
              obtain ⟨q0, q1, q2, q3, q4, q5⟩ := act_row_at HR.out
              rw [← HW1.out] at q0 q1 q2 q3 q4 q5
              go_wp2_with fail
              rw [HW1.out]
              rw [HW1.out] at q0 q1 q2 q3 q4 q5
              refine (GNUM.out w1 HBA.out).mono ?_
              rintro e w2 ⟨rfl, rfl⟩
              clear q0 q1 q2 q3 q4 q5
              obtain ⟨q0, q1, q2, q3, q4, q5⟩ := act_row_at HR.out
              go_wp2_with fail
              refine (GNAME.out w1 (HBA.out.trans (HB1.out.mono HBA.out.size))).mono ?_
              rintro e w2 ⟨rfl, hb⟩
              have HB2 := Lib.hid (HB1.out.trans (hb.mono HB1.out.size))
              clear hb q0 q1 q2 q3 q4 q5
              obtain ⟨q0, q1, q2, q3, q4, q5⟩ := act_row_at (HR.out.of_block (HB2.out.block _ HR.out.lt))
              go_wp2_with fail
              refine (GAT.out w2 (HBA.out.trans (HB2.out.mono HBA.out.size))).mono ?_
              rintro e w3 ⟨rfl, hb⟩
              have HB3 := Lib.hid (HB2.out.trans (hb.mono HB2.out.size))
              clear hb q0 q1 q2 q3 q4 q5
              obtain ⟨q0, q1, q2, q3, q4, q5⟩ := act_row_at (HR.out.of_block (HB3.out.block _ HR.out.lt))
              go_wp2_with fail
              refine (GINTO.out w3 (HBA.out.trans (HB3.out.mono HBA.out.size))).mono ?_
              rintro e w4 ⟨rfl, hb⟩
              have HB4 := Lib.hid (HB3.out.trans (hb.mono HB3.out.size))
              clear hb q0 q1 q2 q3 q4 q5
              obtain ⟨q0, q1, q2, q3, q4, q5⟩ := act_row_at (HR.out.of_block (HB4.out.block _ HR.out.lt))
              go_wp2_with fail
              refine (GCH.out w4 (HBA.out.trans (HB4.out.mono HBA.out.size))).mono ?_
              rintro e w5 ⟨rfl, hb⟩
              have HB5 := Lib.hid (HB4.out.trans (hb.mono HB4.out.size))
              clear hb q0 q1 q2 q3 q4 q5
              obtain ⟨q0, q1, q2, q3, q4, q5⟩ := act_row_at (HR.out.of_block (HB5.out.block _ HR.out.lt))
              obtain ⟨At, ct, hr, hn⟩ := HTW.out w5 (HBA.out.trans (HB5.out.mono HBA.out.size))
              have k0 := hr.cell (i := 0) (by omega)
              clear hr hn
              go_wp2_with fail
              have HRK : ∀ e : ExtK (keepBlocks [w.heap.size]) w5.drew, Hid (e.val.rowIs w.heap.size 26 6 (actF a)) := fun e => (HR.out.of_block (HB5.out.block _ HR.out.lt)).drew.of_block (e.property.2 _ (by simp))
              have z1 := fun e => (act_row_at (HRK e).out).2.1
              have z2 := fun e => (act_row_at (HRK e).out).2.2.1
              have z3 := fun e => (act_row_at (HRK e).out).2.2.2.1
              have z4 := fun e => (act_row_at (HRK e).out).2.2.2.2.1
              clear k0 q0 q1 q2 q3 q4 q5
              refine wp_region_held_lit (keepBlocks [w.heap.size]) [(0, true), (1, true), (2, true), (3, true), (4, true), (5, true), (6, true), (7, true), (8, true), (10, true), (11, true), (9, false), (12, false), (13, false), (14, false)] (by kernel_rfl) (by kernel_rfl) (fun _ _ d _ _ h => by cases d <;> exact h) ?_
              simp only [picked, List.map_cons, List.map_nil, List.getElem?_cons_succ, List.getElem?_cons_zero, Option.getD_some]
              repeat (refine wpH_quiet (by rfl) (fun K hK => ?_); go_big_quiet_op; refine hK _ ?_; clear hK K)
              clear HRK z1 z2 z3 z4
              refine wpH_one (by rfl) (fun K hK => ?_)
              go_simp
              refine (GCL.out w5.drew).mono ?_
              rintro e w6 ⟨rfl, hb⟩
              have HBX : Hid (Below w5.heap.size w5 w6) := ((Below.refl _ _).drew.trans hb)
              have HB6 := Lib.hid (HB5.out.trans (HBX.out.mono HB5.out.size))
              have HLT : Hid (w.heap.size < w5.heap.size) := Nat.lt_of_lt_of_le HR.out.lt HB5.out.size
              refine hK _ _ (keep_one hb.size (hb.block _ HLT.out)) ?_
              clear hK K hb
              refine wpH_one (by rfl) (fun K hK => ?_)
              go_simp
              refine hK _ _ ((keepBlocks _).refl _) ?_
              clear hK K
              refine wpH_one (by rfl) (fun K hK => ?_)
              go_simp
              have HLT2 : Hid (w.heap.size < w6.heap.size) := Nat.lt_of_lt_of_le HR.out.lt HB6.out.size
              refine hK _ _ (keep_one (by simp) (heap_alloc_old _ _ HLT2.out)) ?_
              clear hK K
              have HND : Hid (NodesAt (w6.alloc (.cells (nodeCells (newNode a)).toArray 57)) (some ⟨w6.heap.size, 0, none⟩) [newNode a]) := node_lit w6 (newNode a) _ rfl
              have HBY : Hid (Below w.heap.size w (w6.alloc (.cells (nodeCells (newNode a)).toArray 57))) := (HBA.out.trans (HB6.out.mono HBA.out.size)).trans ((Below.refl _ _).alloc (by have := HLT2.out; omega) _)
              refine wpH_one (by rfl) (fun K hK => ?_)
              go_simp
              refine (GPUT.out _ _ 1 (HTW.out _ HBY.out) HND.out).mono ?_
              rintro e w7 ⟨rfl, ht, ho⟩
              refine hK _ _ (keep_one ho.size (ho.block _ (by have := HLT2.out; simp; omega) (by have := HGL.out; omega))) ?_
              clear hK K
              have HFT := Lib.hid ht
              have HFO : Hid (Only g w w7) := (Only.of_below HBY.out).trans ho
              clear ht ho
              refine wpH_nil ?_
              go_wp2
              go_ret
              refine doRes_of HE.out rfl ?_ HFO.out
              have := HFT.out
              unfold spl at this
              simpa using this
        · have HE : Hid (rDo l a = (l, u)) := by
            have e := rPlace_up (id := 0) (name := a.name) HU.out hu
            show _ = _
            rw [rDo_c3 HK.out ⟨hid, hnm⟩ hf (by rw [e]; exact hu), e]
          have eu : (u != 0) = true := bne_iff_ne.2 hu
          have eu2 : (u == 0) = false := beq_eq_false_iff_ne.2 hu
          clear hid hnm hf hm hu
          unfold actCells
          go_enter Try.func29, Try.ntmps29
          obtain ⟨q0, q1, q2, q3, q4, q5⟩ := act_row_at HR.out
          rw [← HW1.out] at q0 q1 q2 q3 q4 q5
          go_wp2_with fail
          rw [HW1.out]
          rw [HW1.out] at q0 q1 q2 q3 q4 q5
          refine (GNUM.out w1 HBA.out).mono ?_
          rintro e w2 ⟨rfl, rfl⟩
          clear q0 q1 q2 q3 q4 q5
          obtain ⟨q0, q1, q2, q3, q4, q5⟩ := act_row_at HR.out
          go_wp2_with fail
          refine (GNAME.out w1 (HBA.out.trans (HB1.out.mono HBA.out.size))).mono ?_
          rintro e w2 ⟨rfl, hb⟩
          have HB2 := Lib.hid (HB1.out.trans (hb.mono HB1.out.size))
          clear hb q0 q1 q2 q3 q4 q5
          obtain ⟨q0, q1, q2, q3, q4, q5⟩ := act_row_at (HR.out.of_block (HB2.out.block _ HR.out.lt))
          go_wp2_with fail
          refine (GAT.out w2 (HBA.out.trans (HB2.out.mono HBA.out.size))).mono ?_
          rintro e w3 ⟨rfl, hb⟩
          have HB3 := Lib.hid (HB2.out.trans (hb.mono HB2.out.size))
          clear hb q0 q1 q2 q3 q4 q5
          obtain ⟨q0, q1, q2, q3, q4, q5⟩ := act_row_at (HR.out.of_block (HB3.out.block _ HR.out.lt))
          go_wp2_with fail
          refine (GINTO.out w3 (HBA.out.trans (HB3.out.mono HBA.out.size))).mono ?_
          rintro e w4 ⟨rfl, hb⟩
          have HB4 := Lib.hid (HB3.out.trans (hb.mono HB3.out.size))
          clear hb q0 q1 q2 q3 q4 q5
          obtain ⟨q0, q1, q2, q3, q4, q5⟩ := act_row_at (HR.out.of_block (HB4.out.block _ HR.out.lt))
          go_wp2
          go_ret
          exact doRes_of HE.out rfl (HTW.out _ (HBA.out.trans (HB4.out.mono HBA.out.size))) (Only.of_below (HBA.out.trans (HB4.out.mono HBA.out.size)))
    · have HE := Lib.hid (rDo_c1 (l := l) HK.out fun e => hnm e.2)
      rw [rName_no hnm] at GNAME
      clear hid hnm hm
      unfold actCells
      go_enter Try.func29, Try.ntmps29
      obtain ⟨q0, q1, q2, q3, q4, q5⟩ := act_row_at HR.out
      rw [← HW1.out] at q0 q1 q2 q3 q4 q5
      go_wp2_with fail
      rw [HW1.out]
      rw [HW1.out] at q0 q1 q2 q3 q4 q5
      refine (GNUM.out w1 HBA.out).mono ?_
      rintro e w2 ⟨rfl, rfl⟩
      clear q0 q1 q2 q3 q4 q5
      obtain ⟨q0, q1, q2, q3, q4, q5⟩ := act_row_at HR.out
      go_wp2_with fail
      refine (GNAME.out w1 (HBA.out.trans (HB1.out.mono HBA.out.size))).mono ?_
      rintro e w2 ⟨rfl, hb⟩
      have HB2 := Lib.hid (HB1.out.trans (hb.mono HB1.out.size))
      clear hb q0 q1 q2 q3 q4 q5
      obtain ⟨q0, q1, q2, q3, q4, q5⟩ := act_row_at (HR.out.of_block (HB2.out.block _ HR.out.lt))
      go_wp2
      go_ret
      exact doRes_of HE.out rfl (HTW.out _ (HBA.out.trans (HB2.out.mono HBA.out.size))) (Only.of_below (HBA.out.trans (HB2.out.mono HBA.out.size)))
  · have HE := Lib.hid (rDo_c1 (l := l) HK.out fun e => hid e.1)
    rw [decide_eq_false hid] at GNUM
    clear hid hm
    unfold actCells
    go_enter Try.func29, Try.ntmps29
    obtain ⟨q0, q1, q2, q3, q4, q5⟩ := act_row_at HR.out
    rw [← HW1.out] at q0 q1 q2 q3 q4 q5
    go_wp2_with fail
    rw [HW1.out]
    rw [HW1.out] at q0 q1 q2 q3 q4 q5
    refine (GNUM.out w1 HBA.out).mono ?_
    rintro e w2 ⟨rfl, rfl⟩
    clear q0 q1 q2 q3 q4 q5
    obtain ⟨q0, q1, q2, q3, q4, q5⟩ := act_row_at HR.out
    go_wp2
    go_ret
    exact doRes_of HE.out rfl (HTW.out _ (HBA.out.trans (HB1.out.mono HBA.out.size))) (Only.of_below (HBA.out.trans (HB1.out.mono HBA.out.size)))
end Go.Proofs.Ytmedaimndaaiiaa
