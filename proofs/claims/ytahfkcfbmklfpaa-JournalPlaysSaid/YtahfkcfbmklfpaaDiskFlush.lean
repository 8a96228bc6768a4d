/- The landed disk: the contract of Flush. Condition: fewer than 2^20 writes in the cache, fewer than 2^40 acts; the disk is one that New and its methods made. -/
import Derived.Test.YtahfkcfbmklfpaaDiskWrite
namespace Go.Proofs.Ytahfkcfbmklfpaa
open Go.RowKit Go.Deep

theorem act_fit {D : DiskD} (h : D.Fit) : D.act.1.Fit := by
  obtain ⟨h1, h2⟩ := act_safe D
  exact ⟨by rw [h1]; exact h.pos, by rw [h1]; exact h.most, by rw [h1]; exact h.safe, by rw [h1, h2]; exact h.cache⟩
/-- A write in the cache, as cells. -/
theorem cache_range {w : World} {cb c : Nat} {D : DiskD} (h : w.ownsRow 0 78 65 (.slice (some ⟨cb, 0, none⟩) D.cache.length c) D.cache.length (D.cache.flatMap wrCells)) (h64 : ∀ p ∈ D.cache, p.2.length = 64) {k : Nat} (hk : k < D.cache.length) :
    w.rangeAt cb (k * 65) (wrCells D.cache[k]) := fun j v hv => by
  have hg : ∀ p ∈ D.cache, (wrCells p).length = 65 := fun p hp => by rw [wrCells, List.length_cons, u8s_length, h64 p hp]
  have hj : j < 65 := by rw [← hg _ (List.getElem_mem hk)]; exact (List.getElem?_eq_some_iff.1 hv).1
  rw [← flatm_get wrCells 65 D.cache hg k hk j hj] at hv
  have := (CellsAt.of_own h).cell hv
  rwa [Nat.zero_add] at this

set_option maxHeartbeats 2000000 in
set_option maxRecDepth 100000 in
theorem landFlush_any (O : Nat → Prop) (g : Nat) (D : DiskD) (hops : D.ops ≤ 1099511627776) (hc : D.cache.length ≤ 1048576) (hfit : D.Fit) (w : World) (h : LandAt O g D w) :
    Calls Try.prog 25 #[.pointer (some ⟨g, 0, none⟩)] w fun e w' => e = .returned (.int .i64 (D.flush.2 : Nat)) ∧ LandAt O g D.flush.1 w' ∧ Off O w w' := by
  have GA := Lib.hid (landAct_any O g D hops w h)
  clear h
  have HE : Hid (D.flush = if D.act.2 ≠ 0 then D.act else (⟨fold D.cache D.safe, [], D.act.1.left, D.act.1.off, D.act.1.ops⟩, 0)) := rfl
  have hsf := act_safe D
  have hcode := act_code D
  obtain ⟨X, HX⟩ : ∃ X, Hid (D.act = X) := ⟨_, rfl⟩
  rw [HX.out] at GA HE hsf hcode
  obtain ⟨⟨S, C, L, F, K⟩, E⟩ := X
  simp only at GA HE hsf hcode
  obtain ⟨hS, hC⟩ := hsf
  subst hS hC
  have HF := Lib.hid hfit; clear hfit
  rcases hcode with rfl | rfl
  · rw [if_neg (by simp)] at HE
    rw [HE.out]
    obtain ⟨Z, hZs, hZ⟩ := zero_write
    have HZ := Lib.hid hZ; have HZS := Lib.hid hZs; clear hZ hZs
    go_enter Try.func25, Try.ntmps25
    go_wp2_with fail
    refine GA.out.mono ?_
    rintro e w1 ⟨rfl, hd, ho⟩
    have HO := Lib.hid ho; clear ho
    obtain ⟨hg, hl, bs, sc, bn, nc, cA, cc, cut, left, o1, o2, o3, d1, d2, d3, d4, hr, hsr, hnr, how, hp⟩ := hd
    simp only at hr
    have HG := Lib.hid hg; have HLT := Lib.hid hl; have HO1 := Lib.hid o1; have HO2 := Lib.hid o2; have HO3 := Lib.hid o3; have HD1 := Lib.hid d1; have HDD2 := Lib.hid d2; have HD3 := Lib.hid d3; have HD4 := Lib.hid d4
    have HR := Lib.hid hr; have HSR := Lib.hid hsr; have HNR := Lib.hid hnr; have HOW := Lib.hid how; have HP := Lib.hid hp
    have c2 : w1.cell? ⟨g, 2, none⟩ = some (.slice cA D.cache.length cc) := (hr.cell (i := 2) (by omega)).trans rfl
    clear hg hl o1 o2 o3 d1 d2 d3 d4 hr hsr hnr how hp
    go_wp2_with fail
    clear c2
    go_loopw [13] (fun i wr => ∃ k : Nat, k ≤ D.cache.length ∧ i = .int .i64 k ∧ Only bs w1 wr ∧ SecRow wr bs ((fold (D.cache.take k) D.safe).map secB)) (fun i _ => D.cache.length - (intOf i).toNat)
    case atStart => exact ⟨0, Nat.zero_le _, rfl, Only.refl _ _, HSR.out⟩
    case round =>
      obtain ⟨k, hk, rfl, hon, hsk⟩ := hrel
      have HON := Lib.hid hon; have HSK := Lib.hid hsk
      clear hon hsk
      have HGW : Hid (g < wr.heap.size) := Nat.lt_of_lt_of_le (HLT.out g HG.out) HON.out.size
      have HRW : Hid (wr.rowIs g 70 7 (landCells bs sc bn nc D.safe.length cA D.cache.length cc K cut left F)) := HR.out.of_block (HON.out.block g (HLT.out g HG.out) (Ne.symm HDD2.out))
      by_cases hlt : k < D.cache.length
      · obtain ⟨cb, c', hv, _, hcb⟩ := HOW.out.form (show 0 < D.cache.length by omega)
        injection hv with hv _ hc'
        subst hv hc'
        have hne := (HD4.out _ rfl).2.1
        have HRG : Hid (wr.rangeAt cb (k * 65) (wrCells D.cache[k])) := rangeAt_kept (cache_range HOW.out (fun p hp => (HF.out.cache p hp).2) hlt) (HON.out.block cb hcb hne)
        clear hne hcb
        obtain ⟨hq, h64⟩ := HF.out.cache _ (List.getElem_mem hlt)
        have HFT := Lib.hid (fold_take D.cache D.safe k hlt)
        obtain ⟨P, HPP⟩ : ∃ P, Hid (D.cache[k] = P) := ⟨_, Lib.hid rfl⟩
        rw [HPP.out] at HRG hq h64 HFT
        obtain ⟨q, l⟩ := P
        simp only at hq h64 HFT
        have HL64 := Lib.hid h64; clear h64
        have HWL : Hid ((wrCells (q, l)).length = 65) := by show _ = 65; rw [wrCells, List.length_cons, u8s_length, HL64.out]
        have HW1 : Hid (∀ u ∈ wrCells (q, l), u.oneCell' = true) := fun u hu => by
          rcases List.mem_cons.1 hu with rfl | hu
          · rfl
          · exact u8s_one l u hu
        go_wp2_with (first
          | (refine wpList_load_mid rfl 78 (.tmp 15) rfl cb (k * 65) rfl (wrCells (q, l)) _ HRG.out Try.underlying78 rfl (by rw [size_write, HWL.out]) ?_)
          | (refine wpList_alloc_z rfl 78 rfl Z HZ.out ?_)
          | (refine wpList_store_row rfl 78 (.tmp 4) (.tmp 16) rfl wr.heap.size (wrCells (q, l)).toArray rfl rfl 78 Z.cells (heap_alloc_new wr _) (by rw [size_write, List.size_toArray, HWL.out]) (by rw [HZS.out, List.size_toArray, HWL.out]) (all_oneCell_toArray HW1.out) ?_
             rw [World.setRow_alloc_new]))
        obtain ⟨b4, hb4⟩ : ∃ x, x = wr.heap.size := ⟨_, rfl⟩
        rw [← hb4]
        have HB2 : Hid (Below wr.heap.size wr (wr.alloc (.cells (wrCells (q, l)).toArray 78))) := (Below.refl _ _).alloc (Nat.le_refl _) _
        have HR2 : Hid ((wr.alloc (.cells (wrCells (q, l)).toArray 78)).rangeAt b4 0 (wrCells (q, l))) := fun j v hv => by
          rw [hb4, Nat.zero_add, cell_of_row _ _ _ _ _ _ (heap_alloc_new wr _)]
          simpa using hv
        have HS2 : Hid (b4 < (wr.alloc (.cells (wrCells (q, l)).toArray 78)).heap.size) := by show b4 < _; rw [hb4]; simp
        have HN4 : Hid (wr.heap.size ≤ b4) := Nat.le_of_eq hb4.symm
        clear hb4
        generalize wr.alloc (.cells (wrCells (q, l)).toArray 78) = w2 at HB2 HR2 HS2 ⊢
        have hbl : bs < wr.heap.size := HSK.out.1
        have HSR2 : Hid (SecRow w2 bs ((fold (D.cache.take k) D.safe).map secB)) := HSK.out.kept HB2.out.size (HB2.out.block bs hbl)
        have HTH : Hid (w2.there bs (q * 64) 64) := HSR2.out.there (by rw [List.length_map, fold_length]; exact hq) (Nat.le_refl _)
        have HNE : Hid (g ≠ bs ∧ b4 ≠ bs) := ⟨Ne.symm HDD2.out, by have := HN4.out; omega⟩
        have HR4 : Hid (w2.rangeAt b4 1 (u8s l)) := fun j v hv => by
          have h1 := HR2.out (j + 1) v (by simpa [wrCells] using hv)
          rwa [show 0 + (j + 1) = 1 + j by omega] at h1
        have c0 : w2.cell? ⟨g, 0, none⟩ = some (.slice (some ⟨bs, 0, none⟩) D.safe.length sc) := ((HRW.out.of_block (HB2.out.block g HGW.out)).cell (i := 0) (by omega)).trans rfl
        have c4 : w2.cell? ⟨b4, 0, none⟩ = some (.int .i64 (q : Int)) := HR2.out 0 _ rfl
        have e0 : ∀ e : ExtK (keepBlocks [g, b4]) w2.drew, e.val.cell? ⟨g, 0, none⟩ = some (.slice (some ⟨bs, 0, none⟩) D.safe.length sc) := fun e => (cell_of_block (e.property.2 g (by simp)) 0).trans c0
        have e4 : ∀ e : ExtK (keepBlocks [g, b4]) w2.drew, e.val.cell? ⟨b4, 0, none⟩ = some (.int .i64 (q : Int)) := fun e => (cell_of_block (e.property.2 b4 (by simp)) 0).trans c4
        have e7 : ∀ x : World, (∃ e : ExtK (keepBlocks [g, b4]) w2.drew, x = e.val) → x.rangeAt b4 1 (u8s l) := fun x ⟨e, he⟩ => by
          subst he
          exact rangeAt_kept (w := w2) HR4.out (e.property.2 b4 (by simp))
        clear c0 c4 hbl
        refine wp_region_held_lit (keepBlocks [g, b4]) [(0, true), (1, true), (2, true), (3, true), (4, true), (5, true), (6, true), (7, true), (8, true), (9, false)] (by kernel_rfl) (by kernel_rfl) (fun _ _ d _ _ h => by cases d <;> exact h) ?_
        simp only [picked, List.map_cons, List.map_nil, List.getElem?_cons_succ, List.getElem?_cons_zero, Option.getD_some]
        repeat (first
          | (refine wpH_quiet (by rfl) (fun K hK => ?_); refine quiet_load_mid 76 (.tmp 23) rfl b4 1 rfl (u8s l) _ e7 Try.underlying76 rfl (by rw [size_sector, u8s_length, HL64.out]) ?_; refine hK _ ?_; clear hK K; simp only [Act.put, List.setIfInBounds_toArray, List.set_cons_zero, List.set_cons_succ])
          | (refine wpH_quiet (by rfl) (fun K hK => ?_); go_big_quiet_op; refine hK _ ?_; clear hK K))
        clear e0 e4 e7
        refine wpH_one (by rfl) (fun K hK => ?_)
        refine wp_store_mid 76 (.tmp 25) (.tmp 24) rfl bs (q * 64) (u8s l).toArray rfl rfl (by rw [List.size_toArray, u8s_length, HL64.out]; exact HTH.out) (by rw [size_sector, List.size_toArray, u8s_length, HL64.out]) (u8s_all l) ?_
        have hoc : Only bs w2.drew (w2.drew.setCells bs (q * 64) (u8s l)) := Only.cells _ _ _
        refine hK _ _ (keep_two hoc.size (hoc.block g (Nat.lt_of_lt_of_le HGW.out HB2.out.size) HNE.out.1) (hoc.block b4 HS2.out HNE.out.2)) ?_
        clear hK K
        simp only [Act.put]
        refine wpH_nil ?_
        have HNX : Hid (Only bs w1 (w2.drew.setCells bs (q * 64) (u8s l)) ∧ SecRow (w2.drew.setCells bs (q * 64) (u8s l)) bs ((fold (D.cache.take (k + 1)) D.safe).map secB)) := by
          refine ⟨HON.out.trans ((Only.of_below HB2.out).trans ((Only.refl bs w2).drew.trans hoc)), ?_⟩
          have hx : ((fold (D.cache.take k) D.safe).map secB)[q]? = some (((fold (D.cache.take k) D.safe).map secB)[q]'(by rw [List.length_map, fold_length]; exact hq)) := List.getElem?_eq_getElem _
          have hput := SecRow.put (w := w2.drew) HSR2.out hx l (by rw [HL64.out]; exact Nat.le_refl _)
          have hd : (((fold (D.cache.take k) D.safe).map secB)[q]'(by rw [List.length_map, fold_length]; exact hq)).drop l.length = [] := by
            have := (HSR2.out.2.1 q _ hx).1
            rw [List.drop_eq_nil_iff, HL64.out]
            omega
          rw [hd, List.append_nil] at hput
          rw [HFT.out, List.map_set]
          exact hput
        generalize w2.drew.setCells bs (q * 64) (u8s l).toArray.toList = w6 at HNX ⊢
        clear hoc
        go_wp2
        go_roundw
        case measure => simp [intOf]; omega
        exact ⟨k + 1, by omega, rfl, HNX.out.1, HNX.out.2⟩
      · obtain rfl : k = D.cache.length := by omega
        rw [List.take_length] at HSK
        have f2 := HRW.out.frozen 2
        have c2 : wr.cell? ⟨g, 2, none⟩ = some (.slice cA D.cache.length cc) := (HRW.out.cell (i := 2) (by omega)).trans rfl
        go_wp2
        go_ret
        have hse : Only g wr (wr.setCell ⟨g, 2, none⟩ (.slice none 0 0)) := (Only.refl g wr).set 2 _
        have hrw := HRW.out.set 2 (.slice none 0 0)
        have hO1 : Off O w1 wr := Off.of_only HON.out HO1.out
        have hO2 : Off O wr (wr.setCell ⟨g, 2, none⟩ (.slice none 0 0)) := Off.of_only hse HG.out
        refine ⟨rfl, ⟨HG.out, fun b hb => ?_, bs, sc, bn, nc, none, 0, cut, left, HO1.out, HO2.out, (fun a ha => by cases ha), HD1.out, HDD2.out, HD3.out, (fun a ha => by cases ha), ?_, ?_, ?_, World.ownsRow_nil _ _ _ _, HP.out⟩, ((Off.of_only HO.out HG.out).trans hO1 fun _ h => .inl h).trans hO2 fun _ h => .inl h⟩
        · have h1 := HLT.out b hb
          have h2 := hO1.size
          have h3 := hO2.size
          omega
        · refine hrw.congr fun i hi => ?_
          rcases seven hi with rfl | rfl | rfl | rfl | rfl | rfl | rfl
          · show Value.slice _ _ _ = Value.slice _ _ _
            rw [fold_length]
          · show Value.slice _ _ _ = Value.slice _ _ _
            rw [fold_length]
          all_goals rfl
        · exact HSK.out.kept hse.size (hse.block bs HSK.out.1 HDD2.out)
        · have h1 := HNR.out.kept HON.out.size (HON.out.block bn HNR.out.1 (Ne.symm HD1.out))
          exact h1.kept hse.size (hse.block bn h1.1 HD3.out)
  · have e : Hid (D.flush = (⟨D.safe, D.cache, L, F, K⟩, 7)) := by show _ = _; rw [HE.out, if_pos (by simp)]
    rw [e.out]
    go_enter Try.func25, Try.ntmps25
    go_wp2_with fail
    refine GA.out.mono ?_
    rintro e w1 ⟨rfl, hd, ho⟩
    have HD := Lib.hid hd; have HO := Lib.hid ho; clear hd ho
    go_wp2
    go_ret
    exact ⟨rfl, HD.out, Off.of_only HO.out HD.out.1⟩
end Go.Proofs.Ytahfkcfbmklfpaa
