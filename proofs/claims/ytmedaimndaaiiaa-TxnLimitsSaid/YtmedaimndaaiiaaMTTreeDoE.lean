/- The landed tree: another text of a file is made. Conditions: a tree, an act that may be. -/
import Derived.Test.YtmedaimndaaiiaaMTTreeWithin
import Derived.Test.YtmedaimndaaiiaaMTTreeDoM
import Derived.Test.YtmedaimndaaiiaaMTApDo
/- The landed tree: another text of a file is made. Conditions: a tree, an act that may be. -/
namespace Go.Proofs.Ytmedaimndaaiiaa
open Go.RowKit Go.Deep

theorem total_set {l : List NodeV} {k : Nat} (hk : k < l.length) (y : NodeV) : rTotal (l.set k y) = rTotal (l.take k) + rTotal (l.drop (k + 1)) + (cps y.text).length := by
  rw [List.set_eq_take_append_cons_drop, if_pos hk, total_app, total_one]
  omega
theorem node_row_text {w : World} {g : Nat} {y : NodeV} (t : List Nat) (h : w.rowIs g 57 5 (nodeF y)) : (w.setCell ⟨g, 4, none⟩ (.string (bstr t))).rowIs g 57 5 (nodeF ⟨y.id, y.parent, y.name, y.dir, t⟩) := by
  refine (h.set 4 _).congr fun j hj => ?_
  match j, hj with
  | 0, _ => rfl
  | 1, _ => rfl
  | 2, _ => rfl
  | 3, _ => rfl
  | 4, _ => rfl
theorem total_single (y : NodeV) : rTotal [y] = (cps y.text).length := by rw [total_one, total_nil]; rfl
theorem tot_small {l : List NodeV} (h : TreeM l) (k : Nat) : rTotal (l.take k) + rTotal (l.drop k) ≤ 10000 := by
  have := h.tot
  rw [← List.take_append_drop k l, total_app] at this
  exact this
set_option maxHeartbeats 4000000 in
set_option maxRecDepth 100000 in
theorem edit_any (g : Nat) (l : List NodeV) (a : ActV) (hm : TreeM l) (ha : ActOk a) (hk : a.kind = 4) (w : World) (h : TreeAt w g l) (hop : CompsAt w a.opsA a.ops) :
    Calls Try.prog 32 #[.pointer (some ⟨g, 0, none⟩), .agg (actCells a).toArray] w (DoRes w g l a) := by
  have HM := Lib.hid hm
  have HT := Lib.hid h
  have HA := Lib.hid ha
  have HOP := Lib.hid hop
  have hl := hm.len
  have HTW : Hid (∀ w', Below w.heap.size w w' → TreeAt w' g l) := fun w' hb => HT.out.below hb
  have HR := Lib.hid (act_row w a)
  have HBA := Lib.hid ((Below.refl w.heap.size w).alloc (Nat.le_refl _) (.cells #[.int .i64 a.kind, .int .i64 a.id, .int .i64 a.parent, .string (bstr a.name), .bool a.dir, .slice a.opsA a.ops.length a.opsC] 26))
  obtain ⟨w1, HW1⟩ : ∃ x, Hid (w.alloc (.cells #[.int .i64 a.kind, .int .i64 a.id, .int .i64 a.parent, .string (bstr a.name), .bool a.dir, .slice a.opsA a.ops.length a.opsC] 26) = x) := ⟨_, Lib.hid rfl⟩
  rw [HW1.out] at HR HBA
  have HB1 := Lib.hid (Below.refl w1.heap.size w1)
  have HGL : Hid (g < w.heap.size) := h.lt
  have GAT := Lib.hid (fun (w' : World) (hb : Below w.heap.size w w') => at_any _ l a.id hm.srt (by omega) w' (HTW.out w' hb).ptr)
  have HK := Lib.hid hk
  clear h hk
  cases hf : rFind l a.id with
  | none =>
    have HE := Lib.hid (rDo_e1 HK.out hf)
    rw [hf] at GAT
    clear hf hm hop ha
    unfold actCells
    go_enter Try.func32, Try.ntmps32
    obtain ⟨q0, q1, q2, q3, q4, q5⟩ := act_row_at HR.out
    rw [← HW1.out] at q0 q1 q2 q3 q4 q5
    go_wp2_with fail
    rw [HW1.out]
    rw [HW1.out] at q0 q1 q2 q3 q4 q5
    refine (GAT.out w1 (HBA.out.trans (HB1.out.mono HBA.out.size))).mono ?_
    rintro e w2 ⟨rfl, hb⟩
    have HB2 := Lib.hid (HB1.out.trans (hb.mono HB1.out.size))
    clear hb q0 q1 q2 q3 q4 q5
    obtain ⟨q0, q1, q2, q3, q4, q5⟩ := act_row_at (HR.out.of_block (HB2.out.block _ HR.out.lt))
    go_wp2
    go_ret
    exact doRes_of HE.out rfl (HTW.out _ (HBA.out.trans (HB2.out.mono HBA.out.size))) (Only.of_below (HBA.out.trans (HB2.out.mono HBA.out.size)))
  | some k =>
    obtain ⟨hkl, hki, _⟩ := rFind_some hf
    rw [hf, srt_at hm.srt hf] at GAT
    have HD := Lib.hid (rDo_e HK.out hkl hf)
    clear hki
    cases hdir : l[k].dir with
    | true =>
      have HE : Hid (rDo l a = (l, 8)) := by show _ = _; rw [HD.out, if_pos hdir]
      clear hf hop ha HD
      unfold actCells
      go_enter Try.func32, Try.ntmps32
      obtain ⟨q0, q1, q2, q3, q4, q5⟩ := act_row_at HR.out
      rw [← HW1.out] at q0 q1 q2 q3 q4 q5
      go_wp2_with fail
      rw [HW1.out]
      rw [HW1.out] at q0 q1 q2 q3 q4 q5
      refine (GAT.out w1 (HBA.out.trans (HB1.out.mono HBA.out.size))).mono ?_
      rintro e w2 ⟨rfl, hb⟩
      have HB2 := Lib.hid (HB1.out.trans (hb.mono HB1.out.size))
      clear hb q0 q1 q2 q3 q4 q5
      obtain ⟨q0, q1, q2, q3, q4, q5⟩ := act_row_at (HR.out.of_block (HB2.out.block _ HR.out.lt))
      obtain ⟨At, ct, hr, hn⟩ := HTW.out w2 (HBA.out.trans (HB2.out.mono HBA.out.size))
      have k0 := hr.cell (i := 0) (by omega)
      obtain ⟨bt, ot, rfl, _⟩ := hn.1.form (by omega)
      obtain ⟨d0, d1, d2, d3, d4⟩ := hn.1.at_ hkl
      have HTR := Lib.hid hr
      have HTN := Lib.hid hn
      clear hr hn
      have hkI : (k : Int) < (l.length : Int) := by omega
      clear hm
      generalize l[k] = y at d0 d1 d2 d3 d4 hdir
      obtain ⟨yi, yp, yn, yd, yt⟩ := y
      simp only at d0 d1 d2 d3 d4 hdir
      subst hdir
      have HNR := Lib.hid (node_row0 w2 ⟨yi, yp, yn, true, yt⟩)
      unfold nodeCells at HNR
      simp only [List.toArray] at HNR
      have HBN := Lib.hid ((Below.refl w2.heap.size w2).alloc (Nat.le_refl _) (.cells #[.int .i64 yi, .int .i64 yp, .string (bstr yn), .bool true, .string (bstr yt)] 57))
      obtain ⟨n0, HN0⟩ : ∃ x, Hid (w2.heap.size = x) := ⟨_, Lib.hid rfl⟩
      obtain ⟨w3, HWN⟩ : ∃ x, Hid (w2.alloc (.cells #[.int .i64 yi, .int .i64 yp, .string (bstr yn), .bool true, .string (bstr yt)] 57) = x) := ⟨_, Lib.hid rfl⟩
      rw [HWN.out] at HNR HBN
      rw [HN0.out] at HNR
      have HB3 := Lib.hid (HB2.out.trans (HBN.out.mono HB2.out.size))
      go_wp2
      rw [HWN.out]
      go_ret
      exact doRes_of HE.out rfl (HTW.out _ (HBA.out.trans (HB3.out.mono HBA.out.size))) (Only.of_below (HBA.out.trans (HB3.out.mono HBA.out.size)))
    | false =>
      have HDF : Hid (¬ l[k].dir = true) := by show ¬ _; rw [hdir]; decide
      have htx := hm.nd _ (List.getElem_mem hkl)
      have GDO := Lib.hid (fun (w' : World) (hb : Below w.heap.size w w') => apDo_any l[k].text a.opsA a.opsC a.ops (hm.good _ (List.getElem_mem hkl)).2.2.2.1 (by have := htx.2.2.2.2.1; omega) (by have := ha.1.2.2.2.2.2.1; have := ha.1.2.2.2.2.2.2; omega) ha.2.2.1 (by have := ha.2.2.2; omega) w' (hop.below hb))
      obtain ⟨de, HDE⟩ : ∃ x, Hid (dErr l[k].text a.ops = x) := ⟨_, Lib.hid rfl⟩
      obtain ⟨dt, HDT⟩ : ∃ x, Hid (dTxt l[k].text a.ops = x) := ⟨_, Lib.hid rfl⟩
      have HEND : Hid (∀ e, DoEnd l[k].text a.ops e → e = .returned (.tuple #[.string (bstr dt), .int .i64 (de : Int)])) := fun e h => by rw [← HDE.out, ← HDT.out]; exact h.eq
      by_cases hde : de = 0
      · have HET := Lib.hid (edit_text (HDE.out.trans hde))
        rw [HDT.out] at HET
        have hsm := tot_small hm k
        have hsm2 := tot_small hm (k + 1)
        obtain ⟨tA, HTA⟩ : ∃ x, Hid (rTotal (l.take k) = x) := ⟨_, Lib.hid rfl⟩
        obtain ⟨tB, HTB⟩ : ∃ x, Hid (rTotal (l.drop (k + 1)) = x) := ⟨_, Lib.hid rfl⟩
        obtain ⟨tC, HTC⟩ : ∃ x, Hid ((cps dt).length = x) := ⟨_, Lib.hid rfl⟩
        have hA : tA ≤ 10000 := by rw [← HTA.out]; omega
        have hB : tB ≤ 10000 := by rw [← HTB.out]; omega
        have hC : tC ≤ 2000 := by rw [← HTC.out]; exact HET.out.2.2
        have HTS : Hid (rTotal (l.set k ⟨l[k].id, l[k].parent, l[k].name, l[k].dir, dt⟩) = tA + tB + tC) := by show _ = _; rw [total_set hkl, HTA.out, HTB.out]; rw [← HTC.out]
        have GPA := Lib.hid (fun (A : Option Addr) (c : Nat) (w' : World) (hA : NodesAt w' A (l.take k)) => points_any A c (l.take k) (by rw [List.length_take]; omega) (fun y hy => hm.goodv y (List.mem_of_mem_take hy)) w' hA)
        have GPB := Lib.hid (fun (A : Option Addr) (c : Nat) (w' : World) (hA : NodesAt w' A (l.drop (k + 1))) => points_any A c (l.drop (k + 1)) (by rw [List.length_drop]; omega) (fun y hy => hm.goodv y (List.mem_of_mem_drop hy)) w' hA)
        have GPC := Lib.hid (fun (y : NodeV) (h : y.text = dt) (A : Option Addr) (c : Nat) (w' : World) (hA : NodesAt w' A [y]) => points_any A c [y] (by simp) (fun z hz => by rw [List.mem_singleton.1 hz, h]; exact ⟨HET.out.2.1, by have := HET.out.1; omega⟩) w' hA)
        rw [HTA.out, List.length_take, Nat.min_eq_left (by omega)] at GPA
        rw [HTB.out, List.length_drop] at GPB
        by_cases hbig : 10000 < tA + tB + tC
        · have HE : Hid (rDo l a = (l, 4)) := by show _ = _; rw [HD.out, if_neg HDF.out, if_neg (by rw [HDE.out, hde]; simp), HDT.out, HTS.out, if_pos hbig]
          have eb : (10000 : Int) < (tA : Int) + (tB : Int) + (tC : Int) := by omega
          have ebd : decide ((10000 : Int) < (tA : Int) + (tB : Int) + (tC : Int)) = true := decide_eq_true eb
          subst hde
          clear hf hop ha HD hbig eb htx hsm hsm2
          unfold actCells
          go_enter Try.func32, Try.ntmps32
          obtain ⟨q0, q1, q2, q3, q4, q5⟩ := act_row_at HR.out
          rw [← HW1.out] at q0 q1 q2 q3 q4 q5
          go_wp2_with fail
          rw [HW1.out]
          rw [HW1.out] at q0 q1 q2 q3 q4 q5
          refine (GAT.out w1 (HBA.out.trans (HB1.out.mono HBA.out.size))).mono ?_
          rintro e w2 ⟨rfl, hb⟩
          have HB2 := Lib.hid (HB1.out.trans (hb.mono HB1.out.size))
          clear hb q0 q1 q2 q3 q4 q5
          obtain ⟨q0, q1, q2, q3, q4, q5⟩ := act_row_at (HR.out.of_block (HB2.out.block _ HR.out.lt))
          obtain ⟨At, ct, hr, hn⟩ := HTW.out w2 (HBA.out.trans (HB2.out.mono HBA.out.size))
          have k0 := hr.cell (i := 0) (by omega)
          obtain ⟨bt, ot, rfl, _⟩ := hn.1.form (by omega)
          obtain ⟨d0, d1, d2, d3, d4⟩ := hn.1.at_ hkl
          have HTR := Lib.hid hr
          have HTN := Lib.hid hn
          clear hr hn
          have hkI : (k : Int) < (l.length : Int) := by omega
          clear hm
          generalize l[k] = y at d0 d1 d2 d3 d4 hdir GDO HEND
          obtain ⟨yi, yp, yn, yd, yt⟩ := y
          simp only at d0 d1 d2 d3 d4 hdir GDO HEND
          subst hdir
          have HNR := Lib.hid (node_row0 w2 ⟨yi, yp, yn, false, yt⟩)
          unfold nodeCells at HNR
          simp only [List.toArray] at HNR
          have HBN := Lib.hid ((Below.refl w2.heap.size w2).alloc (Nat.le_refl _) (.cells #[.int .i64 yi, .int .i64 yp, .string (bstr yn), .bool false, .string (bstr yt)] 57))
          obtain ⟨n0, HN0⟩ : ∃ x, Hid (w2.heap.size = x) := ⟨_, Lib.hid rfl⟩
          obtain ⟨w3, HWN⟩ : ∃ x, Hid (w2.alloc (.cells #[.int .i64 yi, .int .i64 yp, .string (bstr yn), .bool false, .string (bstr yt)] 57) = x) := ⟨_, Lib.hid rfl⟩
          rw [HWN.out] at HNR HBN
          rw [HN0.out] at HNR
          have HB3 := Lib.hid (HB2.out.trans (HBN.out.mono HB2.out.size))
          have q5n := (act_row_at (HR.out.of_block (HB3.out.block _ HR.out.lt))).2.2.2.2.2
          rw [← HWN.out] at q5n
          go_wp2_with fail
          rw [HWN.out]
          clear q5n
          refine (GDO.out w3 (HBA.out.trans (HB3.out.mono HBA.out.size))).mono ?_
          rintro e w4 ⟨he, hb⟩
          obtain rfl := HEND.out e he
          have HBX := Lib.hid hb
          have HB4 := Lib.hid (HB3.out.trans (hb.mono HB3.out.size))
          rw [HN0.out]
          clear hb he q0 q1 q2 q3 q4 q5 d0 d1 d2 d3 d4 k0
          go_wp2_with fail
          have HBZ4 : Hid (Below w2.heap.size w2 w4) := (HBN.out.trans (HBX.out.mono HBN.out.size))
          have hcutH := fun w => ncut_high (some ⟨bt, ot, none⟩) l.length ct k (by have := HTN.out.2; omega) w
          have hcutL : ∀ w, (Instr.slice 38 (.slice (some ⟨bt, ot, none⟩) l.length ct) (some (.int .i64 ((k : Int) + 1))) none none).run Try.prog w = .ok (.slice (nLow (some ⟨bt, ot, none⟩) (k + 1) ct) (l.length - (k + 1)) (ct - (k + 1))) w := fun w => ncut_low (some ⟨bt, ot, none⟩) l.length ct (k + 1) (by omega) w
          have HRK : ∀ e : ExtK (keepBlocks [g]) w4.drew, e.val.cell? ⟨g, 0, none⟩ = some (.slice (some ⟨bt, ot, none⟩) l.length ct) := fun e => (((HTR.out.of_block (HBZ4.out.block _ HTR.out.lt)).drew.of_block (e.property.2 _ (by simp))).cell (i := 0) (by omega)).trans rfl
          refine wp_region_held_lit (keepBlocks [g]) [(0, true), (1, true), (2, true), (3, true), (4, true), (5, true), (7, true), (8, true), (9, true), (10, true), (11, true), (12, true), (13, true), (6, false), (14, false), (15, true), (16, true)] (by kernel_rfl) (by kernel_rfl) (fun _ _ d _ _ h => by cases d <;> exact h) ?_
          simp only [picked, List.map_cons, List.map_nil, List.getElem?_cons_succ, List.getElem?_cons_zero, Option.getD_some]
          repeat (refine wpH_quiet (by rfl) (fun K hK => ?_); go_big_quiet_op; refine hK _ ?_; clear hK K)
          clear HRK
          have HGL4 : Hid (g < w4.heap.size) := Nat.lt_of_lt_of_le HTR.out.lt HBZ4.out.size
          refine wpH_one (by rfl) (fun K hK => ?_)
          go_simp
          refine (GPA.out _ _ w4.drew ((HTN.out.1.high ct k).below (HBZ4.out.drew))).mono ?_
          rintro e w5 ⟨rfl, hb⟩
          have HB5 := Lib.hid (HB4.out.trans ((((Below.refl _ _).drew : Below w4.heap.size w4 w4.drew).trans hb).mono HB4.out.size))
          have HBZ5 := Lib.hid (HBZ4.out.trans ((((Below.refl _ _).drew : Below w4.heap.size w4 w4.drew).trans hb).mono HBZ4.out.size))
          have HB45 : Hid (Below w4.heap.size w4 w5) := ((Below.refl _ _).drew : Below w4.heap.size w4 w4.drew).trans hb
          refine hK _ _ (keep_one hb.size (hb.block _ HGL4.out)) ?_
          clear hK K hb
          have HGL5 : Hid (g < w5.heap.size) := Nat.lt_of_lt_of_le HTR.out.lt HBZ5.out.size
          refine wpH_one (by rfl) (fun K hK => ?_)
          go_simp
          refine (GPB.out _ _ w5 ((HTN.out.1.low ct (k + 1) HTN.out.2).below HBZ5.out)).mono ?_
          rintro e w6 ⟨rfl, hb⟩
          have HB6 := Lib.hid (HB5.out.trans (hb.mono HB5.out.size))
          have HBZ6 := Lib.hid (HBZ5.out.trans (hb.mono HBZ5.out.size))
          have HB46 := Lib.hid (HB45.out.trans (hb.mono HB45.out.size))
          refine hK _ _ (keep_one hb.size (hb.block _ HGL5.out)) ?_
          clear hK K hb
          repeat (refine wpH_quiet (by rfl) (fun K hK => ?_); go_big_quiet_op; refine hK _ ?_; clear hK K)
          refine wpH_nil ?_
          have HNR6 : Hid (w6.rowIs n0 57 5 (nodeF ⟨yi, yp, yn, false, yt⟩)) := by
            have hlt : n0 < w3.heap.size := HNR.out.lt
            refine HNR.out.of_block ?_
            have h4 : w4.heap[n0]? = w3.heap[n0]? := HBX.out.block _ hlt
            exact (HB46.out.block _ (Nat.lt_of_lt_of_le hlt HBX.out.size)).trans h4
          obtain ⟨u0, u1, u2, u3, v4⟩ := node_row_at HNR6.out
          have f4 := HNR6.out.frozen 4
          simp only at u0 u1 u2 u3 v4
          have HNR7 := Lib.hid (node_row_text dt HNR6.out)
          obtain ⟨w7, HW7⟩ : ∃ x, Hid (w6.setCell ⟨n0, 4, none⟩ (.string (bstr dt)) = x) := ⟨_, Lib.hid rfl⟩
          rw [HW7.out] at HNR7
          have HB7 : Hid (Below w1.heap.size w1 w7) := by show Below _ _ _; rw [← HW7.out]; exact HB6.out.setCell (p := ⟨n0, 4, none⟩) (by have := HB2.out.size; have := HN0.out; show w1.heap.size ≤ n0; omega) _
          obtain ⟨yy, HYY⟩ : ∃ x : NodeV, Hid (x = ⟨yi, yp, yn, false, dt⟩) := ⟨_, Lib.hid rfl⟩
          have HND : Hid (NodesAt (w7.alloc (.cells #[.int .i64 yi, .int .i64 yp, .string (bstr yn), .bool false, .string (bstr dt)] 57)) (some ⟨w7.heap.size, 0, none⟩) [yy]) := by show NodesAt _ _ _; rw [HYY.out]; exact node_lit w7 ⟨yi, yp, yn, false, dt⟩ _ rfl
          have HB8 : Hid (Below w1.heap.size w1 (w7.alloc (.cells #[.int .i64 yi, .int .i64 yp, .string (bstr yn), .bool false, .string (bstr dt)] 57))) := HB7.out.trans ((Below.refl _ _).alloc HB7.out.size _)
          have HROW8 := Lib.hid (HNR7.out.alloc (.cells #[.int .i64 yi, .int .i64 yp, .string (bstr yn), .bool false, .string (bstr dt)] 57))
          have GPY := Lib.hid (GPC.out yy (by rw [HYY.out]) (some ⟨w7.heap.size, 0, none⟩) 1 _ HND.out)
          have HTY : Hid (rTotal [yy] = tC) := by show _ = _; rw [total_single, HYY.out]; exact HTC.out
          rw [HTY.out] at GPY
          have HS76 : Hid (w7.heap.size = w6.heap.size) := by show _ = _; rw [← HW7.out]; simp
          obtain ⟨w8, HW8⟩ : ∃ x, Hid (w7.alloc (.cells #[.int .i64 yi, .int .i64 yp, .string (bstr yn), .bool false, .string (bstr dt)] 57) = x) := ⟨_, Lib.hid rfl⟩
          rw [HW8.out] at HB8 HROW8 GPY
          rw [HS76.out] at GPY
          simp only [List.length_cons, List.length_nil, Nat.zero_add] at GPY
          have es1 : wrap64 ((tA : Int) + (tB : Int)) = (tA : Int) + (tB : Int) := by unfold wrap64; omega
          have es2 : wrap64 ((tA : Int) + (tB : Int) + (tC : Int)) = (tA : Int) + (tB : Int) + (tC : Int) := by unfold wrap64; omega
          go_wp2_with fail
          rw [HW7.out]
          rw [HW8.out]
          clear u0 u1 u2 u3 v4 f4
          have HB8s : Hid (Below w.heap.size w w8) := HBA.out.trans (HB8.out.mono HBA.out.size)
          refine (GPY.out).mono ?_
          rintro e w9 ⟨rfl, hb⟩
          have HB9 := Lib.hid (HB8.out.trans (hb.mono HB8.out.size))
          have HROW9 := Lib.hid (HROW8.out.of_block (hb.block _ HROW8.out.lt))
          clear hb
          go_wp2
          go_ret
          exact doRes_of HE.out rfl (HTW.out _ (HBA.out.trans (HB9.out.mono HBA.out.size))) (Only.of_below (HBA.out.trans (HB9.out.mono HBA.out.size)))
        · have HE : Hid (rDo l a = (l.set k ⟨l[k].id, l[k].parent, l[k].name, l[k].dir, dt⟩, 0)) := by show _ = _; rw [HD.out, if_neg HDF.out, if_neg (by rw [HDE.out, hde]; simp), HDT.out, HTS.out, if_neg hbig]
          have eb : ¬ (10000 : Int) < (tA : Int) + (tB : Int) + (tC : Int) := by omega
          have ebd : decide ((10000 : Int) < (tA : Int) + (tB : Int) + (tC : Int)) = false := decide_eq_false eb
          subst hde
          clear hf hop ha HD hbig eb htx hsm hsm2
          unfold actCells
          go_enter Try.func32, Try.ntmps32
          obtain ⟨q0, q1, q2, q3, q4, q5⟩ := act_row_at HR.out
          rw [← HW1.out] at q0 q1 q2 q3 q4 q5
          go_wp2_with fail
          rw [HW1.out]
          rw [HW1.out] at q0 q1 q2 q3 q4 q5
          refine (GAT.out w1 (HBA.out.trans (HB1.out.mono HBA.out.size))).mono ?_
          rintro e w2 ⟨rfl, hb⟩
          have HB2 := Lib.hid (HB1.out.trans (hb.mono HB1.out.size))
          clear hb q0 q1 q2 q3 q4 q5
          obtain ⟨q0, q1, q2, q3, q4, q5⟩ := act_row_at (HR.out.of_block (HB2.out.block _ HR.out.lt))
          obtain ⟨At, ct, hr, hn⟩ := HTW.out w2 (HBA.out.trans (HB2.out.mono HBA.out.size))
          have k0 := hr.cell (i := 0) (by omega)
          obtain ⟨bt, ot, rfl, _⟩ := hn.1.form (by omega)
          obtain ⟨d0, d1, d2, d3, d4⟩ := hn.1.at_ hkl
          have HTR := Lib.hid hr
          have HTN := Lib.hid hn
          clear hr hn
          have hkI : (k : Int) < (l.length : Int) := by omega
          have GPUT := Lib.hid (fun (y : NodeV) (w' : World) (A : Option Addr) (c : Nat) (ht : TreeAt w' g l) (hn : NodesAt w' A [y]) => put_any g l [y] A c k (k + 1) (by omega) (by omega) (by simp; omega) w' ht hn)
          have HSP := Lib.hid (fun y => spl_set l hkl y)
          clear hm
          generalize l[k] = y at d0 d1 d2 d3 d4 hdir GDO HEND HE
          obtain ⟨yi, yp, yn, yd, yt⟩ := y
          simp only at d0 d1 d2 d3 d4 hdir GDO HEND HE
          subst hdir
          have HNR := Lib.hid (node_row0 w2 ⟨yi, yp, yn, false, yt⟩)
          unfold nodeCells at HNR
          simp only [List.toArray] at HNR
          have HBN := Lib.hid ((Below.refl w2.heap.size w2).alloc (Nat.le_refl _) (.cells #[.int .i64 yi, .int .i64 yp, .string (bstr yn), .bool false, .string (bstr yt)] 57))
          obtain ⟨n0, HN0⟩ : ∃ x, Hid (w2.heap.size = x) := ⟨_, Lib.hid rfl⟩
          obtain ⟨w3, HWN⟩ : ∃ x, Hid (w2.alloc (.cells #[.int .i64 yi, .int .i64 yp, .string (bstr yn), .bool false, .string (bstr yt)] 57) = x) := ⟨_, Lib.hid rfl⟩
          rw [HWN.out] at HNR HBN
          rw [HN0.out] at HNR
          have HB3 := Lib.hid (HB2.out.trans (HBN.out.mono HB2.out.size))
          have q5n := (act_row_at (HR.out.of_block (HB3.out.block _ HR.out.lt))).2.2.2.2.2
          rw [← HWN.out] at q5n
          go_wp2_with fail
          rw [HWN.out]
          clear q5n
          refine (GDO.out w3 (HBA.out.trans (HB3.out.mono HBA.out.size))).mono ?_
          rintro e w4 ⟨he, hb⟩
          obtain rfl := HEND.out e he
          have HBX := Lib.hid hb
          have HB4 := Lib.hid (HB3.out.trans (hb.mono HB3.out.size))
          rw [HN0.out]
          clear hb he q0 q1 q2 q3 q4 q5 d0 d1 d2 d3 d4 k0
          go_wp2_with fail
          have HBZ4 : Hid (Below w2.heap.size w2 w4) := (HBN.out.trans (HBX.out.mono HBN.out.size))
          have hcutH := fun w => ncut_high (some ⟨bt, ot, none⟩) l.length ct k (by have := HTN.out.2; omega) w
          have hcutL : ∀ w, (Instr.slice 38 (.slice (some ⟨bt, ot, none⟩) l.length ct) (some (.int .i64 ((k : Int) + 1))) none none).run Try.prog w = .ok (.slice (nLow (some ⟨bt, ot, none⟩) (k + 1) ct) (l.length - (k + 1)) (ct - (k + 1))) w := fun w => ncut_low (some ⟨bt, ot, none⟩) l.length ct (k + 1) (by omega) w
          have HRK : ∀ e : ExtK (keepBlocks [g]) w4.drew, e.val.cell? ⟨g, 0, none⟩ = some (.slice (some ⟨bt, ot, none⟩) l.length ct) := fun e => (((HTR.out.of_block (HBZ4.out.block _ HTR.out.lt)).drew.of_block (e.property.2 _ (by simp))).cell (i := 0) (by omega)).trans rfl
          refine wp_region_held_lit (keepBlocks [g]) [(0, true), (1, true), (2, true), (3, true), (4, true), (5, true), (7, true), (8, true), (9, true), (10, true), (11, true), (12, true), (13, true), (6, false), (14, false), (15, true), (16, true)] (by kernel_rfl) (by kernel_rfl) (fun _ _ d _ _ h => by cases d <;> exact h) ?_
          simp only [picked, List.map_cons, List.map_nil, List.getElem?_cons_succ, List.getElem?_cons_zero, Option.getD_some]
          repeat (refine wpH_quiet (by rfl) (fun K hK => ?_); go_big_quiet_op; refine hK _ ?_; clear hK K)
          clear HRK
          have HGL4 : Hid (g < w4.heap.size) := Nat.lt_of_lt_of_le HTR.out.lt HBZ4.out.size
          refine wpH_one (by rfl) (fun K hK => ?_)
          go_simp
          refine (GPA.out _ _ w4.drew ((HTN.out.1.high ct k).below (HBZ4.out.drew))).mono ?_
          rintro e w5 ⟨rfl, hb⟩
          have HB5 := Lib.hid (HB4.out.trans ((((Below.refl _ _).drew : Below w4.heap.size w4 w4.drew).trans hb).mono HB4.out.size))
          have HBZ5 := Lib.hid (HBZ4.out.trans ((((Below.refl _ _).drew : Below w4.heap.size w4 w4.drew).trans hb).mono HBZ4.out.size))
          have HB45 : Hid (Below w4.heap.size w4 w5) := ((Below.refl _ _).drew : Below w4.heap.size w4 w4.drew).trans hb
          refine hK _ _ (keep_one hb.size (hb.block _ HGL4.out)) ?_
          clear hK K hb
          have HGL5 : Hid (g < w5.heap.size) := Nat.lt_of_lt_of_le HTR.out.lt HBZ5.out.size
          refine wpH_one (by rfl) (fun K hK => ?_)
          go_simp
          refine (GPB.out _ _ w5 ((HTN.out.1.low ct (k + 1) HTN.out.2).below HBZ5.out)).mono ?_
          rintro e w6 ⟨rfl, hb⟩
          have HB6 := Lib.hid (HB5.out.trans (hb.mono HB5.out.size))
          have HBZ6 := Lib.hid (HBZ5.out.trans (hb.mono HBZ5.out.size))
          have HB46 := Lib.hid (HB45.out.trans (hb.mono HB45.out.size))
          refine hK _ _ (keep_one hb.size (hb.block _ HGL5.out)) ?_
          clear hK K hb
          repeat (refine wpH_quiet (by rfl) (fun K hK => ?_); go_big_quiet_op; refine hK _ ?_; clear hK K)
          refine wpH_nil ?_
          have HNR6 : Hid (w6.rowIs n0 57 5 (nodeF ⟨yi, yp, yn, false, yt⟩)) := by
            have hlt : n0 < w3.heap.size := HNR.out.lt
            refine HNR.out.of_block ?_
            have h4 : w4.heap[n0]? = w3.heap[n0]? := HBX.out.block _ hlt
            exact (HB46.out.block _ (Nat.lt_of_lt_of_le hlt HBX.out.size)).trans h4
          obtain ⟨u0, u1, u2, u3, v4⟩ := node_row_at HNR6.out
          have f4 := HNR6.out.frozen 4
          simp only at u0 u1 u2 u3 v4
          have HNR7 := Lib.hid (node_row_text dt HNR6.out)
          obtain ⟨w7, HW7⟩ : ∃ x, Hid (w6.setCell ⟨n0, 4, none⟩ (.string (bstr dt)) = x) := ⟨_, Lib.hid rfl⟩
          rw [HW7.out] at HNR7
          have HB7 : Hid (Below w1.heap.size w1 w7) := by show Below _ _ _; rw [← HW7.out]; exact HB6.out.setCell (p := ⟨n0, 4, none⟩) (by have := HB2.out.size; have := HN0.out; show w1.heap.size ≤ n0; omega) _
          obtain ⟨yy, HYY⟩ : ∃ x : NodeV, Hid (x = ⟨yi, yp, yn, false, dt⟩) := ⟨_, Lib.hid rfl⟩
          have HND : Hid (NodesAt (w7.alloc (.cells #[.int .i64 yi, .int .i64 yp, .string (bstr yn), .bool false, .string (bstr dt)] 57)) (some ⟨w7.heap.size, 0, none⟩) [yy]) := by show NodesAt _ _ _; rw [HYY.out]; exact node_lit w7 ⟨yi, yp, yn, false, dt⟩ _ rfl
          have HB8 : Hid (Below w1.heap.size w1 (w7.alloc (.cells #[.int .i64 yi, .int .i64 yp, .string (bstr yn), .bool false, .string (bstr dt)] 57))) := HB7.out.trans ((Below.refl _ _).alloc HB7.out.size _)
          have HROW8 := Lib.hid (HNR7.out.alloc (.cells #[.int .i64 yi, .int .i64 yp, .string (bstr yn), .bool false, .string (bstr dt)] 57))
          have GPY := Lib.hid (GPC.out yy (by rw [HYY.out]) (some ⟨w7.heap.size, 0, none⟩) 1 _ HND.out)
          have HTY : Hid (rTotal [yy] = tC) := by show _ = _; rw [total_single, HYY.out]; exact HTC.out
          rw [HTY.out] at GPY
          have HS76 : Hid (w7.heap.size = w6.heap.size) := by show _ = _; rw [← HW7.out]; simp
          obtain ⟨w8, HW8⟩ : ∃ x, Hid (w7.alloc (.cells #[.int .i64 yi, .int .i64 yp, .string (bstr yn), .bool false, .string (bstr dt)] 57) = x) := ⟨_, Lib.hid rfl⟩
          rw [HW8.out] at HB8 HROW8 GPY
          rw [HS76.out] at GPY
          simp only [List.length_cons, List.length_nil, Nat.zero_add] at GPY
          have es1 : wrap64 ((tA : Int) + (tB : Int)) = (tA : Int) + (tB : Int) := by unfold wrap64; omega
          have es2 : wrap64 ((tA : Int) + (tB : Int) + (tC : Int)) = (tA : Int) + (tB : Int) + (tC : Int) := by unfold wrap64; omega
          go_wp2_with fail
          rw [HW7.out]
          rw [HW8.out]
          clear u0 u1 u2 u3 v4 f4
          have HB8s : Hid (Below w.heap.size w w8) := HBA.out.trans (HB8.out.mono HBA.out.size)
          refine (GPY.out).mono ?_
          rintro e w9 ⟨rfl, hb⟩
          have HB9 := Lib.hid (HB8.out.trans (hb.mono HB8.out.size))
          have HROW9 := Lib.hid (HROW8.out.of_block (hb.block _ HROW8.out.lt))
          clear hb
          obtain ⟨u0, u1, u2, u3, u4⟩ := node_row_at HROW9.out
          simp only at u0 u1 u2 u3 u4
          have HBZ : Hid (Below w.heap.size w w9) := HBA.out.trans (HB9.out.mono HBA.out.size)
          have HND9 : Hid (NodesAt (w9.alloc (.cells #[.int .i64 yi, .int .i64 yp, .string (bstr yn), .bool false, .string (bstr dt)] 57)) (some ⟨w9.heap.size, 0, none⟩) [⟨yi, yp, yn, false, dt⟩]) := node_lit w9 ⟨yi, yp, yn, false, dt⟩ _ rfl
          have HBY : Hid (Below w.heap.size w (w9.alloc (.cells #[.int .i64 yi, .int .i64 yp, .string (bstr yn), .bool false, .string (bstr dt)] 57))) := HBZ.out.trans ((Below.refl _ _).alloc HBZ.out.size _)
          go_wp2_with fail
          refine (GPUT.out ⟨yi, yp, yn, false, dt⟩ _ _ 1 (HTW.out _ HBY.out) HND9.out).mono ?_
          rintro e w10 ⟨rfl, ht, ho⟩
          have HFT := Lib.hid ht
          have HFO : Hid (Only g w w10) := (Only.of_below HBY.out).trans ho
          clear ht ho
          go_wp2
          go_ret
          refine doRes_of HE.out rfl ?_ HFO.out
          have := HFT.out
          rw [HSP.out] at this
          exact this
      · have HE : Hid (rDo l a = (l, (de : Int))) := by show _ = _; rw [HD.out, if_neg HDF.out, if_pos (by rw [HDE.out]; exact hde), HDE.out]
        have ed : ((de : Int) != 0) = true := bne_iff_ne.2 (by omega)
        have ed2 : ((de : Int) == 0) = false := beq_eq_false_iff_ne.2 (by omega)
        clear hf hop ha HD htx hde
        unfold actCells
        go_enter Try.func32, Try.ntmps32
        obtain ⟨q0, q1, q2, q3, q4, q5⟩ := act_row_at HR.out
        rw [← HW1.out] at q0 q1 q2 q3 q4 q5
        go_wp2_with fail
        rw [HW1.out]
        rw [HW1.out] at q0 q1 q2 q3 q4 q5
        refine (GAT.out w1 (HBA.out.trans (HB1.out.mono HBA.out.size))).mono ?_
        rintro e w2 ⟨rfl, hb⟩
        have HB2 := Lib.hid (HB1.out.trans (hb.mono HB1.out.size))
        clear hb q0 q1 q2 q3 q4 q5
        obtain ⟨q0, q1, q2, q3, q4, q5⟩ := act_row_at (HR.out.of_block (HB2.out.block _ HR.out.lt))
        obtain ⟨At, ct, hr, hn⟩ := HTW.out w2 (HBA.out.trans (HB2.out.mono HBA.out.size))
        have k0 := hr.cell (i := 0) (by omega)
        obtain ⟨bt, ot, rfl, _⟩ := hn.1.form (by omega)
        obtain ⟨d0, d1, d2, d3, d4⟩ := hn.1.at_ hkl
        have HTR := Lib.hid hr
        have HTN := Lib.hid hn
        clear hr hn
        have hkI : (k : Int) < (l.length : Int) := by omega
        clear hm
        generalize l[k] = y at d0 d1 d2 d3 d4 hdir GDO HEND
        obtain ⟨yi, yp, yn, yd, yt⟩ := y
        simp only at d0 d1 d2 d3 d4 hdir GDO HEND
        subst hdir
        have HNR := Lib.hid (node_row0 w2 ⟨yi, yp, yn, false, yt⟩)
        unfold nodeCells at HNR
        simp only [List.toArray] at HNR
        have HBN := Lib.hid ((Below.refl w2.heap.size w2).alloc (Nat.le_refl _) (.cells #[.int .i64 yi, .int .i64 yp, .string (bstr yn), .bool false, .string (bstr yt)] 57))
        obtain ⟨n0, HN0⟩ : ∃ x, Hid (w2.heap.size = x) := ⟨_, Lib.hid rfl⟩
        obtain ⟨w3, HWN⟩ : ∃ x, Hid (w2.alloc (.cells #[.int .i64 yi, .int .i64 yp, .string (bstr yn), .bool false, .string (bstr yt)] 57) = x) := ⟨_, Lib.hid rfl⟩
        rw [HWN.out] at HNR HBN
        rw [HN0.out] at HNR
        have HB3 := Lib.hid (HB2.out.trans (HBN.out.mono HB2.out.size))
        have q5n := (act_row_at (HR.out.of_block (HB3.out.block _ HR.out.lt))).2.2.2.2.2
        rw [← HWN.out] at q5n
        go_wp2_with fail
        rw [HWN.out]
        clear q5n
        refine (GDO.out w3 (HBA.out.trans (HB3.out.mono HBA.out.size))).mono ?_
        rintro e w4 ⟨he, hb⟩
        obtain rfl := HEND.out e he
        have HBX := Lib.hid hb
        have HB4 := Lib.hid (HB3.out.trans (hb.mono HB3.out.size))
        rw [HN0.out]
        clear hb he q0 q1 q2 q3 q4 q5 d0 d1 d2 d3 d4 k0
        go_wp2
        go_ret
        exact doRes_of HE.out rfl (HTW.out _ (HBA.out.trans (HB4.out.mono HBA.out.size))) (Only.of_below (HBA.out.trans (HB4.out.mono HBA.out.size)))
end Go.Proofs.Ytmedaimndaaiiaa
