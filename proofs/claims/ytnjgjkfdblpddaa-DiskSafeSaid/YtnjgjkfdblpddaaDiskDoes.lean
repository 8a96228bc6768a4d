/- The statements' own step on both disks: both answer alike, and go on alike. Condition: fewer than 2^20 steps. -/
import Derived.Test.YtnjgjkfdblpddaaDiskState
import Derived.Test.YtnjgjkfdblpddaaDiskBlock
namespace Go.Proofs.Ytnjgjkfdblpddaa
open Go.RowKit Go.Deep

/-- What a step of a kind, at a place, with a number, does. -/
def stepD (D : DiskD) (k a n : Int) : DiskD × Nat :=
  if k = 1 then D.write a (blks 64 n) else if k = 2 then D.flush else if k = 3 then (D.cut n, 0) else if k = 4 then D.write a (List.replicate (rnd n 100) 0) else (D, 0)
theorem good_step {m : Nat} {D : DiskD} (h : D.Good m) (k a n : Int) (hn : n ≤ 9223372036854775807) : (stepD D k a n).1.Good (m + 1) := by
  unfold stepD
  split
  · exact h.write _ _
  · split
    · exact h.flush
    · split
      · exact (h.cut n hn).more (Nat.le_succ _)
      · split
        · exact h.write _ _
        · exact h.more (Nat.le_succ _)
def DoesEnd (base g gm : Nat) (R : DiskD × Nat) (w : World) (e : Ending) (w' : World) : Prop :=
  e = .returned (.tuple #[.int .i64 (R.2 : Int), .int .i64 (R.2 : Int)]) ∧ Pair base g gm R.1 R.1 w' ∧ Below base w w'
theorem zeros_made (w : World) (n : Nat) : BytesAt (w.alloc (.cells (madeCells #[.int .u8 0] n) 5)) (some ⟨w.heap.size, 0, none⟩) (List.replicate n 0) := by
  have hr := World.rowIs_made w (.int .u8 0) n 5
  refine .inr ⟨w.heap.size, 0, rfl, hr.lt, fun j c hj => ?_⟩
  rw [List.getElem?_replicate] at hj
  split at hj
  · rename_i hjn
    injection hj with hj
    rw [Nat.zero_add, hr.cell hjn, ← hj]
    rfl
  · cases hj

set_option maxHeartbeats 4000000 in
set_option maxRecDepth 100000 in
theorem does_any (base g gm : Nat) (D : DiskD) (m : Nat) (hm : m ≤ 1048576) (hg : D.Good m) (k a n : Int) (hn : n ≤ 9223372036854775807) (w : World) (h : Pair base g gm D D w) :
    Calls Try.prog 11 #[.pointer (some ⟨g, 0, none⟩), .pointer (some ⟨gm, 0, none⟩), .agg #[.int .i64 k, .int .i64 a, .int .i64 n]] w (DoesEnd base g gm (stepD D k a n) w) := by
  have hb0 : Below w.heap.size w (w.alloc (.cells #[.int .i64 k, .int .i64 a, .int .i64 n] 34)) := (Below.refl _ _).alloc (Nat.le_refl _) _
  have hlt := h.lt
  have HB0 : Hid (Below base w (w.alloc (.cells #[.int .i64 k, .int .i64 a, .int .i64 n] 34))) := hb0.mono (by omega)
  have HP0 := Lib.hid (h.below hb0)
  have hrw := World.rowIs_alloc w #[.int .i64 k, .int .i64 a, .int .i64 n] 34 (fun i => if i = 0 then .int .i64 k else if i = 1 then .int .i64 a else .int .i64 n) (fun i hi => by
    have : i = 0 ∨ i = 1 ∨ i = 2 := by simp at hi; omega
    rcases this with rfl | rfl | rfl <;> rfl)
  have q0 : (w.alloc (.cells #[.int .i64 k, .int .i64 a, .int .i64 n] 34)).cell? ⟨w.heap.size, 0, none⟩ = some (.int .i64 k) := (hrw.cell (i := 0) (by simp)).trans rfl
  have q1 : (w.alloc (.cells #[.int .i64 k, .int .i64 a, .int .i64 n] 34)).cell? ⟨w.heap.size, 1, none⟩ = some (.int .i64 a) := (hrw.cell (i := 1) (by simp)).trans rfl
  have q2 : (w.alloc (.cells #[.int .i64 k, .int .i64 a, .int .i64 n] 34)).cell? ⟨w.heap.size, 2, none⟩ = some (.int .i64 n) := (hrw.cell (i := 2) (by simp)).trans rfl
  have HSZ : Hid (w.heap.size < (w.alloc (.cells #[.int .i64 k, .int .i64 a, .int .i64 n] 34)).heap.size) := by show _ < _; simp
  have HG := Lib.hid hg
  obtain ⟨O, hl, hd, hno, hob, hgm⟩ := h
  have HOL := Lib.hid hl.2.1; have HNO := Lib.hid hno; have HOB := Lib.hid hob; have HGM := Lib.hid hgm
  have HLD := Lib.hid (hl.below hb0); have HDD := Lib.hid (hd.below hb0)
  have HLT := Lib.hid hlt
  clear hb0 hrw hg hl hd hno hob hgm hlt
  have hops := Nat.le_trans HG.out.ops hm
  have hcch := Nat.le_trans HG.out.cached hm
  by_cases k1 : k = 1
  · subst k1
    have HE : Hid (stepD D 1 a n = D.write a (blks 64 n)) := by show _ = _; rw [stepD, if_pos rfl]
    rw [HE.out]
    obtain ⟨L, HLL⟩ : ∃ L, Hid (blks 64 n = L) := ⟨_, Lib.hid rfl⟩
    have GB := Lib.hid (fun w => block_any n w)
    have HL64 := Lib.hid (blks_length 64 n)
    have HLB : Hid (∀ x ∈ blks 64 n, x < 256) := fun x hx => by have := blks_lt 64 n x hx; omega
    rw [HLL.out] at GB HL64 HLB ⊢
    go_enter Try.func11, Try.ntmps11
    go_wp2_with fail
    clear q0
    obtain ⟨b5, hb5⟩ : ∃ x, x = w.heap.size := ⟨_, rfl⟩
    rw [← hb5] at q1 q2 HSZ ⊢
    have HB5 := Lib.hid hb5; clear hb5
    generalize w.alloc (.cells #[.int .i64 1, .int .i64 a, .int .i64 n] 34) = w1 at *
    have e1 : ∀ e : ExtK (keepBlocks [b5]) w1.drew, e.val.cell? ⟨b5, 1, none⟩ = some (.int .i64 a) := fun e => (cell_of_block (e.property.2 b5 (by simp)) 1).trans q1
    have e2 : ∀ e : ExtK (keepBlocks [b5]) w1.drew, e.val.cell? ⟨b5, 2, none⟩ = some (.int .i64 n) := fun e => (cell_of_block (e.property.2 b5 (by simp)) 2).trans q2
    clear q1 q2
    refine wp_region_held_lit (keepBlocks [b5]) [(0, true), (1, true), (2, true), (3, true), (4, true), (7, true), (8, true), (9, true), (10, true), (11, true), (5, false), (6, false), (12, false), (13, false), (14, true), (15, true)] (by kernel_rfl) (by kernel_rfl) (fun _ _ d _ _ h => by cases d <;> exact h) ?_
    simp only [picked, List.map_cons, List.map_nil, List.getElem?_cons_succ, List.getElem?_cons_zero, Option.getD_some]
    repeat (refine wpH_quiet (by rfl) (fun K hK => ?_); go_big_quiet_op; refine hK _ ?_; clear hK K)
    clear e1 e2
    refine wpH_one (by rfl) (fun K hK => ?_)
    go_simp
    refine (GB.out w1.drew).mono ?_
    rintro e w2 ⟨gb, cb, rfl, hat, hge, hlt, hbel⟩
    have HAT := Lib.hid hat; have HGE : Hid (w1.heap.size ≤ gb) := hge; have HB2 : Hid (Below w1.heap.size w1 w2) := (Below.refl w1.heap.size w1).drew.trans hbel
    clear hat hge hlt hbel
    refine hK _ _ (keep_one HB2.out.size (HB2.out.block b5 HSZ.out)) ?_
    clear hK K
    refine wpH_one (by rfl) (fun K hK => ?_)
    go_simp
    refine (landWrite_any O g D (by omega) hcch a (some ⟨gb, 0, none⟩) L cb w2 HAT.out (fun x hx => by injection hx with hx; subst hx; show gb ≠ g; have := HLT.out; have := HGE.out; have := HSZ.out; have := HB5.out; omega) (HLD.out.below HB2.out)).mono ?_
    rintro e w3 ⟨rfl, hend⟩
    obtain ⟨hp3, hb3, hoff⟩ := pair_land (HDD.out.below HB2.out) HNO.out HOB.out HGM.out hend
    have HP3 := Lib.hid hp3; have HB3 := Lib.hid hb3
    refine hK _ _ (keep_one hoff.size (hoff.block b5 (Nat.lt_of_lt_of_le HSZ.out HB2.out.size) (fun hf => by have := HOL.out b5 hf; have := HB5.out; omega))) ?_
    clear hK K hp3 hb3 hoff hend
    have HS3 : Hid (b5 < w3.heap.size) := by show _ < _; have := HSZ.out; have := HB2.out.size; have := HB3.out.size; omega
    refine wpH_one (by rfl) (fun K hK => ?_)
    go_simp
    refine (GB.out w3).mono ?_
    rintro e w4 ⟨gb2, cb2, rfl, hat, hge, hlt, hbel⟩
    have HAT2 := Lib.hid hat; have HGE2 := Lib.hid hge; have HB4 := Lib.hid hbel
    clear hat hge hlt hbel
    refine hK _ _ (keep_one HB4.out.size (HB4.out.block b5 HS3.out)) ?_
    clear hK K
    obtain ⟨O2, hl2, hd2, hno2, hob2, hgm2⟩ := HP3.out.below HB4.out
    have HL2 := Lib.hid hl2; have HD2 := Lib.hid hd2; have HNO2 := Lib.hid hno2; have HOB2 := Lib.hid hob2
    clear hl2 hd2 hno2 hob2
    refine wpH_one (by rfl) (fun K hK => ?_)
    go_simp
    refine (refDiskWrite_any _ gm D (by omega) HG.out.left hcch a (some ⟨gb2, 0, none⟩) L cb2 (by rw [HL64.out]; omega) HLB.out w4 HAT2.out (fun x hx => by injection hx with hx; subst hx; show gb2 ≠ gm; have := HP3.out.lt; have := HGE2.out; omega) HD2.out).mono ?_
    rintro e w5 ⟨rfl, hd5, ho5⟩
    obtain ⟨hp5, hb5⟩ := pair_ref HL2.out HNO2.out HOB2.out HGM.out HD2.out.lt hd5 ho5
    have HP5 := Lib.hid hp5; have HB55 := Lib.hid hb5
    refine hK _ _ (keep_one ho5.size (ho5.block b5 (Nat.lt_of_lt_of_le HS3.out HB4.out.size) (by have := HLT.out; have := HB5.out; omega))) ?_
    clear hK K hp5 hb5 ho5 hd5
    repeat (refine wpH_quiet (by rfl) (fun K hK => ?_); go_big_quiet_op; refine hK _ ?_; clear hK K)
    refine wpH_nil ?_
    go_wp2
    go_ret2
    have hbs : base ≤ w1.heap.size := by have := HLT.out; have := HSZ.out; have := HB5.out; omega
    have hbs3 : base ≤ w3.heap.size := by have := HS3.out; have := HLT.out; have := HB5.out; omega
    exact ⟨rfl, HP5.out, ((HB0.out.trans (HB2.out.mono hbs)).trans HB3.out).trans ((HB4.out.mono hbs3).trans HB55.out)⟩
  have hk1 : (k == 1) = false := beq_eq_false_iff_ne.2 k1
  by_cases k2 : k = 2
  · subst k2
    have HE : Hid (stepD D 2 a n = D.flush) := by show _ = _; rw [stepD, if_neg (by decide), if_pos rfl]
    rw [HE.out]
    clear hk1 q1 q2
    go_enter Try.func11, Try.ntmps11
    go_wp2_with fail
    refine (landFlush_any O g D (by omega) hcch HG.out.fit _ HLD.out).mono ?_
    rintro e w3 ⟨rfl, hl3, ho3⟩
    obtain ⟨hp3, hb3, _⟩ := pair_land HDD.out HNO.out HOB.out HGM.out ⟨O, fun _ h => .inl h, hl3, ho3⟩
    have HP3 := Lib.hid hp3; have HB3 := Lib.hid hb3
    clear hp3 hb3 hl3 ho3 q0
    obtain ⟨O2, hl2, hd2, hno2, hob2, hgm2⟩ := HP3.out
    have HL2 := Lib.hid hl2; have HD2 := Lib.hid hd2; have HNO2 := Lib.hid hno2; have HOB2 := Lib.hid hob2
    clear hl2 hd2 hno2 hob2 hgm2
    go_wp2_with fail
    refine (refDiskFlush_any _ gm D (by omega) HG.out.left hcch (Nat.le_trans HG.out.fit.most (by omega)) HG.out.wf w3 HD2.out).mono ?_
    rintro e w5 ⟨rfl, hd5, ho5⟩
    obtain ⟨hp5, hb5⟩ := pair_ref HL2.out HNO2.out HOB2.out HGM.out HD2.out.lt hd5 ho5
    have HP5 := Lib.hid hp5; have HB55 := Lib.hid hb5
    clear hp5 hb5 ho5 hd5
    go_wp2
    go_ret2
    exact ⟨rfl, HP5.out, (HB0.out.trans HB3.out).trans HB55.out⟩
  have hk2 : (k == 2) = false := beq_eq_false_iff_ne.2 k2
  by_cases k3 : k = 3
  · subst k3
    have HE : Hid (stepD D 3 a n = (D.cut n, 0)) := by show _ = _; rw [stepD, if_neg (by decide), if_neg (by decide), if_pos rfl]
    rw [HE.out]
    clear hk1 hk2 q1
    go_enter Try.func11, Try.ntmps11
    go_wp2_with fail
    refine (landCut_any O g D n hn _ HLD.out).mono ?_
    rintro e w3 ⟨rfl, hl3, ho3⟩
    have q2' : w3.cell? ⟨w.heap.size, 2, none⟩ = some (.int .i64 n) := (cell_of_block (ho3.block _ HSZ.out (by have := HLT.out; omega)) 2).trans q2
    obtain ⟨hp3, hb3, _⟩ := pair_land HDD.out HNO.out HOB.out HGM.out (LandEnd.of_only hl3 ho3)
    have HP3 := Lib.hid hp3; have HB3 := Lib.hid hb3
    clear hp3 hb3 hl3 ho3 q0 q2
    obtain ⟨O2, hl2, hd2, hno2, hob2, hgm2⟩ := HP3.out
    have HL2 := Lib.hid hl2; have HD2 := Lib.hid hd2; have HNO2 := Lib.hid hno2; have HOB2 := Lib.hid hob2
    clear hl2 hd2 hno2 hob2 hgm2
    go_wp2_with fail
    refine (refCut_any _ gm D n w3 HD2.out).mono ?_
    rintro e w5 ⟨rfl, hd5, ho5⟩
    obtain ⟨hp5, hb5⟩ := pair_ref HL2.out HNO2.out HOB2.out HGM.out HD2.out.lt hd5 ho5
    have HP5 := Lib.hid hp5; have HB55 := Lib.hid hb5
    clear hp5 hb5 ho5 hd5 q2'
    go_wp2
    go_ret2
    exact ⟨rfl, HP5.out, (HB0.out.trans HB3.out).trans HB55.out⟩
  have hk3 : (k == 3) = false := beq_eq_false_iff_ne.2 k3
  by_cases k4 : k = 4
  · subst k4
    have HE : Hid (stepD D 4 a n = D.write a (List.replicate (rnd n 100) 0)) := by show _ = _; rw [stepD, if_neg (by decide), if_neg (by decide), if_neg (by decide), if_pos rfl]
    rw [HE.out]
    clear hk1 hk2 hk3
    have hr := rnd_lt n (n := 100) (by omega)
    obtain ⟨r, HR⟩ : ∃ r, Hid (rnd n 100 = r) := ⟨_, Lib.hid rfl⟩
    have GR := Lib.hid (fun w => alikeRound_any n 100 (by omega) (by omega) w)
    rw [HR.out] at GR hr ⊢
    have hmk : ∀ w : World, (Instr.makeSlice 41 (.int .i64 (r : Int)) (.int .i64 (r : Int))).run Try.prog w = .ok (.slice (some ⟨w.heap.size, 0, none⟩) r r) (w.alloc (.cells (madeCells #[.int .u8 0] r) 5)) := run_make_row' (P := Try.prog) 41 5 (.int .u8 0) 1 Try.underlying41 u8_info rfl .i64 .i64 r (by omega) (by omega)
    go_enter Try.func11, Try.ntmps11
    go_wp2_with fail
    refine (GR.out _).mono ?_
    rintro e w' ⟨rfl, rfl⟩
    clear q0 q2
    go_wp2_with fail
    clear hmk
    obtain ⟨b5, hb5⟩ : ∃ x, x = w.heap.size := ⟨_, rfl⟩
    have HSZ1 : Hid ((w.alloc (.cells #[.int .i64 4, .int .i64 a, .int .i64 n] 34)).heap.size = w.heap.size + 1) := by show _ = _; simp
    rw [← hb5] at q1 HSZ HSZ1 ⊢
    have HB5 := Lib.hid hb5; clear hb5
    generalize w.alloc (.cells #[.int .i64 4, .int .i64 a, .int .i64 n] 34) = w1 at *
    have HAT := Lib.hid (zeros_made w1 r)
    have HB2 : Hid (Below w1.heap.size w1 (w1.alloc (.cells (madeCells #[.int .u8 0] r) 5))) := (Below.refl _ _).alloc (Nat.le_refl _) _
    have HLR : Hid ((List.replicate r 0).length = r) := List.length_replicate ..
    have HLB : Hid (∀ x ∈ List.replicate r 0, x < 256) := fun x hx => by rw [List.eq_of_mem_replicate hx]; omega
    rw [HSZ1.out] at HAT
    obtain ⟨gb, hgb⟩ : ∃ x, x = b5 + 1 := ⟨_, rfl⟩
    rw [← hgb] at HAT ⊢
    have HGB : Hid (gb = w1.heap.size) := hgb.trans HSZ1.out.symm
    clear hgb
    generalize w1.alloc (.cells (madeCells #[.int .u8 0] r) 5) = w2 at *
    generalize List.replicate r 0 = L at *
    have r1 : w2.cell? ⟨b5, 1, none⟩ = some (.int .i64 a) := (cell_of_block (HB2.out.block b5 HSZ.out) 1).trans q1
    have e1 : ∀ e : ExtK (keepBlocks [b5]) w2.drew, e.val.cell? ⟨b5, 1, none⟩ = some (.int .i64 a) := fun e => (cell_of_block (e.property.2 b5 (by simp)) 1).trans r1
    clear q1 r1
    refine wp_region_held_lit (keepBlocks [b5]) [(0, true), (1, true), (2, true), (3, true), (5, true), (6, true), (7, true), (8, true), (4, false), (9, false), (10, true), (11, true)] (by kernel_rfl) (by kernel_rfl) (fun _ _ d _ _ h => by cases d <;> exact h) ?_
    simp only [picked, List.map_cons, List.map_nil, List.getElem?_cons_succ, List.getElem?_cons_zero, Option.getD_some]
    repeat (refine wpH_quiet (by rfl) (fun K hK => ?_); go_big_quiet_op; refine hK _ ?_; clear hK K)
    clear e1
    refine wpH_one (by rfl) (fun K hK => ?_)
    go_simp
    have gw := landWrite_any O g D (by omega) hcch a (some ⟨gb, 0, none⟩) L r w2.drew HAT.out (fun x hx => by injection hx with hx; subst hx; show gb ≠ g; have := HLT.out; have := HGB.out; have := HSZ.out; have := HB5.out; omega) ((HLD.out.below HB2.out).kept (Nat.le_refl _) fun _ _ => rfl)
    rw [HLR.out] at gw
    refine gw.mono ?_
    clear gw
    rintro e w3 ⟨rfl, hend⟩
    obtain ⟨hp3, hb3, hoff⟩ := pair_land (DiskAt.below (w' := w2.drew) (HDD.out.below HB2.out) (Below.refl w2.heap.size w2).drew) HNO.out HOB.out HGM.out hend
    have HP3 := Lib.hid hp3; have HB3 : Hid (Below base w2 w3) := (Below.refl base w2).drew.trans hb3
    have HAT3 : Hid (BytesAt w3 (some ⟨gb, 0, none⟩) L) := BytesAt.off (w := w2.drew) HAT.out hoff fun hf => by have := HOL.out gb hf; have := HGB.out; have := HSZ.out; have := HB5.out; omega
    refine hK _ _ (keep_one hoff.size (hoff.block b5 (Nat.lt_of_lt_of_le HSZ.out HB2.out.size) (fun hf => by have := HOL.out b5 hf; have := HB5.out; omega))) ?_
    clear hK K hp3 hb3 hoff hend
    have HS3 : Hid (b5 < w3.heap.size) := by show _ < _; have := HSZ.out; have := HB2.out.size; have := HB3.out.size; omega
    obtain ⟨O2, hl2, hd2, hno2, hob2, hgm2⟩ := HP3.out
    have HL2 := Lib.hid hl2; have HD2 := Lib.hid hd2; have HNO2 := Lib.hid hno2; have HOB2 := Lib.hid hob2
    clear hl2 hd2 hno2 hob2
    refine wpH_one (by rfl) (fun K hK => ?_)
    go_simp
    have gw := refDiskWrite_any _ gm D (by omega) HG.out.left hcch a (some ⟨gb, 0, none⟩) L r (by rw [HLR.out]; omega) HLB.out w3 HAT3.out (fun x hx => by injection hx with hx; subst hx; show gb ≠ gm; have := HLT.out; have := HGB.out; have := HSZ.out; have := HB5.out; omega) HD2.out
    rw [HLR.out] at gw
    refine gw.mono ?_
    clear gw
    rintro e w5 ⟨rfl, hd5, ho5⟩
    obtain ⟨hp5, hb5⟩ := pair_ref HL2.out HNO2.out HOB2.out HGM.out HD2.out.lt hd5 ho5
    have HP5 := Lib.hid hp5; have HB55 := Lib.hid hb5
    refine hK _ _ (keep_one ho5.size (ho5.block b5 HS3.out (by have := HLT.out; have := HB5.out; omega))) ?_
    clear hK K hp5 hb5 ho5 hd5
    repeat (refine wpH_quiet (by rfl) (fun K hK => ?_); go_big_quiet_op; refine hK _ ?_; clear hK K)
    refine wpH_nil ?_
    go_wp2
    go_ret2
    have hbs : base ≤ w1.heap.size := by have := HLT.out; have := HSZ.out; have := HB5.out; omega
    exact ⟨rfl, HP5.out, ((HB0.out.trans (HB2.out.mono hbs)).trans HB3.out).trans HB55.out⟩
  · have hk4 : (k == 4) = false := beq_eq_false_iff_ne.2 k4
    have HE : Hid (stepD D k a n = (D, 0)) := by show _ = _; rw [stepD, if_neg k1, if_neg k2, if_neg k3, if_neg k4]
    rw [HE.out]
    clear k1 k2 k3 k4 q1 q2
    go_enter Try.func11, Try.ntmps11
    go_wp2
    go_ret2
    exact ⟨rfl, HP0.out, HB0.out⟩
end Go.Proofs.Ytnjgjkfdblpddaa
