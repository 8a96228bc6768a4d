/- The landed effect's Of: what acts did to whom, by rising IDs. Conditions: at most 2^20 acts, that may be looked at. -/
import Derived.Test.YtnadhpajelkngaaKOfk
/- The landed effect's Of: what acts did to whom, by rising IDs. Conditions: at most 2^20 acts, that may be looked at. -/
namespace Go.Proofs.Ytnadhpajelkngaa
open Go.RowKit Go.Deep

def oneF (x : OneV) : Nat → Value := eightV (.int .i64 x.k.id) (.slice x.opsA x.k.ops.length x.opsC) (.bool x.k.edited) (.bool x.k.removed) (.bool x.k.created) (.bool x.k.moved) (.int .i64 x.k.parent) (.string (bstr x.k.name))
/-- What holds at each label: 0: no one is in the making; 1: the acts of one are being looked at. -/
def OJ (W : World) (l : List ActV) : Nat → Nat → Act → World → Prop
  | 0, k, a, w => ∃ V m p rest A0 c0 L A3 c3 f8, Ranged l m ∧ OFr a (.slice A0 (List.length rest) c0) (.slice A3 (List.length L) c3) W.heap.size ∧ OfWk W V m p [] rest A0 c0 L A3 c3 w ∧ w.rowIs W.heap.size 37 8 f8 ∧ k = 2 * rest.length + 1
  | 1, k, a, w => ∃ V m p run x a1 rest A0 c0 L A3 c3, Ranged l m ∧ OFr a (.slice A0 (List.length rest + 1) c0) (.slice A3 (List.length L) c3) W.heap.size ∧ OfWk W V m p run (a1 :: rest) A0 c0 L A3 c3 w ∧ w.rowIs W.heap.size 37 8 (oneF x) ∧ (x.k = effOne run a1.id ∧ (∀ b ∈ run, b.id = a1.id) ∧ x.Good ∧ KeyH x.k ∧ CompsAt W x.opsA x.k.ops) ∧ k = 2 * (rest.length + 1)
  | _, _, _, _ => False
/-- What Of answers, ahead of its reading as a row. -/
def EffOfEnd (W : World) (m : List ActV) (e : Ending) (w' : World) : Prop := ∃ L A3 c3, e = .returned (.slice A3 (List.length L) c3) ∧ (∃ V, W.heap.size < V ∧ OwnE w' V A3 c3 L ∧ (∀ y ∈ L, Made1 w' V y)) ∧ L.map (·.k) = eff m ∧ Below W.heap.size W w'
def ofS0 : Sched Nat := (.one 4 (.one 5 .done))
def ofS : Sched Nat := (.quiet 1 (.quiet 2 (.two 0 (.one 3 ofS0) 3 (.one 0 ofS0))))
def QuietP (Q : Exit → Act → World → Prop) : Prop := ∀ c a d v w, Q (.panic c) (Act.put a d v) w → Q (.panic c) a w
theorem then_quiet {K : Act → World → Prop} {Q : Exit → Act → World → Prop} (h : QuietP Q) : QuietP (Exit.then K Q) := h
theorem downK_quiet0 {J : Nat → Nat → Act → World → Prop} {n : Nat} {P : Program} {fn : Func} {R : Ending → World → Prop} : QuietP (downK J n (bodyPost P fn R)) := by
  intro c a d v w h
  unfold downK at h ⊢
  cases d <;> exact h
theorem one_made (i : Int) (h : Fit64 i) : (⟨oneZ i, none, 0⟩ : OneV).Good := ⟨h, (by show Fit64 0; unfold Fit64; decide), ⟨fun x hx => (by cases hx), Nat.zero_le _⟩, fun y hy => (by cases hy), Nat.le_refl _, Nat.zero_le _⟩
set_option maxHeartbeats 8000000 in
set_option maxRecDepth 100000 in
theorem effOf_walk (A : Option Addr) (c : Nat) (l : List ActV) (hl : l.length ≤ 1048576) (hg : ∀ a ∈ l, ActH a) (w : World) (hA : ActsAt w A l) :
    Calls Try.prog 10 #[.slice A l.length c] w fun e w' => ∃ m, Ranged l m ∧ EffOfEnd w m e w' := by
  have GB := Lib.hid (fun (w1 : World) (h : Below w.heap.size w w1) => effByID_any A c l hl w1 (hA.below h))
  have HST : Hid (∀ (m : List ActV) (A1 : Option Addr) (c1 : Nat) (w2 : World), Ranged l m → ActRow w2 A1 m → m.length ≤ c1 → (∀ b off q, A1 = some ⟨b, off, q⟩ → w.heap.size + 1 ≤ b ∧ b < w2.heap.size) → Below w.heap.size w w2 → w.heap.size + 1 ≤ w2.heap.size → OfWk w w2.heap.size m [] [] m A1 c1 [] none 0 w2) :=
    Lib.hid (fun m A1 c1 w2 hr ha hc hf hb hu => ⟨rfl, by rw [hr.len]; exact hl, fun a h => ⟨hg a (hr.perm.mem_iff.1 h), hA.2 a (hr.perm.mem_iff.1 h)⟩, hr.rise, fun a h => (by cases h), ha, hc, fun b off q e => hf b off q e, OwnE.nil _ _, rfl, fun y h => (by cases h), hb, Nat.le_refl _, hu, Nat.le_refl _⟩)
  clear hA hg
  obtain ⟨g, HG⟩ : ∃ x, Hid (w.heap.size = x) := ⟨_, rfl⟩
  go_enter Try.func10, Try.ntmps10
  have HBX := Lib.hid (eight_new w 37 (.int .i64 0) (.slice none 0 0) (.bool false) (.bool false) (.bool false) (.bool false) (.int .i64 0) (.string { data := #[] }))
  have GBB := Lib.hid (GB.out (w.alloc (.cells #[.int .i64 0, .slice none 0 0, .bool false, .bool false, .bool false, .bool false, .int .i64 0, .string { data := #[] }] 37)) ((Below.refl _ _).alloc (Nat.le_refl _) _))
  clear GB
  go_wp2
  refine wp_scope_two (OJ w l) ?hJ rfl rfl ?p1 ?p0 ?first
  case hJ =>
    intro j k a w h
    match j, h with
    | 0, _ => omega
    | 1, _ => omega
    | (n + 2), h => exact h.elim
  case first =>
    intro P0
    have P0' := Lib.hid P0; clear P0
    refine ⟨2 * l.length + 1, ?_⟩
    go_wp2_with fail
    refine (GBB.out).mono ?_
    rintro e w1 ⟨⟨A1, c1, m, rfl, hr, hat, hcap, hfar⟩, hb1⟩
    have hbx := HBX.out.of_block (hb1.block _ HBX.out.lt)
    have hb2 : Below w.heap.size w w1 := ((Below.refl w.heap.size w).alloc (Nat.le_refl _) (Obj.cells #[.int .i64 0, .slice none 0 0, .bool false, .bool false, .bool false, .bool false, .int .i64 0, .string { data := #[] }] 37)).trans (hb1.mono (by simp))
    have HWK := Lib.hid (HST.out m A1 c1 w1 hr hat hcap (fun b off q e => by have := hfar b off q e; simpa using this) hb2 (by have := hb1.size; simpa using this))
    have HRG := Lib.hid hr
    have hlen := hr.len
    rw [HG.out] at hbx
    have HB8 := Lib.hid hbx
    clear hbx hb2 hr hat hcap hfar hb1 HBX HST GBB
    have HLN := Lib.hid hlen
    clear hlen
    go_wp2
    go_step3
    rename_i K hK
    rw [HG.out]
    refine hK _ _ (downK_mono (Nat.le_refl _) (P0'.out _ _ _ ⟨_, m, [], m, A1, c1, [], none, 0, _, HRG.out, HG.out ▸ OFr.mk ⟨rfl, rfl, rfl, rfl, rfl⟩, HWK.out, HG.out ▸ HB8.out, by rw [HLN.out]⟩))
  case p1 =>
    clear HBX GBB HST
    rintro k act w2 ⟨V, m, p, run, x, a1, rest, A0, c0, L, A3, c3, hr, hf, hw, hrow, ⟨hx, hrn, hxg, hxk, hxc⟩, rfl⟩
    obtain ⟨F, rfl⟩ := hf.out
    clear hf
    rw [HG.out] at hrow ⊢
    have HRG := Lib.hid hr
    have HW := Lib.hid hw
    have HRN := Lib.hid hrn
    have HXK := Lib.hid hx
    have HXG := Lib.hid hxg
    have HXH := Lib.hid hxk
    have HXC := Lib.hid hxc
    obtain ⟨b, off, A0', rfl, hblt, hcell, hcut, hrest, hcap', hfar'⟩ := acts_next hw.acts hw.cap
    obtain ⟨n, HN⟩ : ∃ n, Hid (rest.length = n) := ⟨_, Lib.hid rfl⟩
    rw [HN.out] at hcut hcap' ⊢
    have HBG : Hid (w.heap.size < b ∧ b < V) := Lib.hid (hw.far b off none rfl)
    have HCUT := Lib.hid hcut
    have HREST := Lib.hid hrest
    have HCAP := Lib.hid hcap'
    have HFAR := Lib.hid hfar'
    have HCELL := Lib.hid hcell
    have HROW := Lib.hid hrow
    have HBLT := Lib.hid hblt
    have HID : Hid (x.k.id = a1.id) := Lib.hid (by rw [hx, effOne_id])
    obtain ⟨y, HY⟩ : ∃ y, Hid (withV x a1 = y) := ⟨_, Lib.hid rfl⟩
    have GW := Lib.hid (fun w => effWith_any x a1 w)
    rw [HY.out] at GW
    unfold oneCells actCells at GW
    have HYK : Hid (y.k = effStep x.k a1) := Lib.hid (by rw [← HY.out]; exact withV_k HID.out.symm)
    have hah := hw.mem (List.mem_cons_self ..)
    have HYG : Hid (y.Good ∧ KeyH y.k ∧ CompsAt w y.opsA y.k.ops) := Lib.hid (by
      rw [HYK.out]
      refine ⟨by rw [← HY.out]; exact withV_good hxg hah.1.1, effStep_held hxk hah.1, ?_⟩
      rw [← HYK.out, ← HY.out]
      exact withV_comps hxc hah.2)
    have HLL := Lib.hid hw.llen
    have hrl : n + 1 ≤ 1048576 := by have := hw.rlen; rw [List.length_cons, HN.out] at this; exact this
    clear hr hw hrn hx hxg hxk hxc hcut hrest hcap' hfar' hblt hah HY hcell hrow
    go_upto_region 7 with fail
    refine Sched.wp_region_free ofS (by kernel_rfl) (by kernel_rfl) (by first | exact then_quiet downK_quiet0 | exact then_quiet (then_quiet downK_quiet0) | exact then_quiet (then_quiet (then_quiet downK_quiet0))) ?_
    replace HROW := Lib.hid HROW.out.drew
    replace HW := Lib.hid (HW.out.only (Only.refl _ _).drew)
    have HREST2 : Hid (ActRow w2.drew A0' rest) := Lib.hid (CellsAt.drew HREST.out)
    have HCELL2 : Hid (∀ (f : Nat) (v : Value), (actCells a1)[f]? = some v → w2.drew.cell? ⟨b, off + f, none⟩ = some v) := Lib.hid HCELL.out
    have HBLT2 : Hid (b < w2.drew.heap.size) := Lib.hid HBLT.out
    clear HREST HCELL HBLT
    generalize World.drew _ = wd at HROW HW HREST2 HCELL2 HBLT2 ⊢
    simp only [ofS, Sched.picked, List.getElem?_cons_succ, List.getElem?_cons_zero, Option.getD_some]
    repeat (first | (refine Sched.walkF_quiet (by rfl) (fun K hK => ?_); go_big_quiet_op; refine hK _ ?_; clear hK K) | (refine Sched.walkF_skip_quiet (by rfl) ?_; simp only [Act.put, List.setIfInBounds_toArray, List.set_cons_zero, List.set_cons_succ]))
    refine Sched.walkF_two ?_ ?_
    · skip
      obtain ⟨z0, z1, z2, z3, z4, z5, z6, z7⟩ := eight_cells (show World.rowIs wd g 37 8 (eightV (.int .i64 x.k.id) (.slice x.opsA x.k.ops.length x.opsC) (.bool x.k.edited) (.bool x.k.removed) (.bool x.k.created) (.bool x.k.moved) (.int .i64 x.k.parent) (.string (bstr x.k.name))) from HROW.out)
      refine Sched.walkF_one (by rfl) (fun K hK => ?_)
      go_simp
      refine hK _ _ ?_
      clear hK K z0 z1 z2 z3 z4 z5 z6 z7
      repeat (first | (refine Sched.walkF_quiet (by rfl) (fun K hK => ?_); go_big_quiet_op; refine hK _ ?_; clear hK K) | (refine Sched.walkF_skip_quiet (by rfl) ?_; simp only [Act.put, List.setIfInBounds_toArray, List.set_cons_zero, List.set_cons_succ]))
      have y0 := HCELL2.out 0 _ rfl
      rw [Nat.add_zero] at y0
      have y1 := HCELL2.out 1 _ rfl
      have y2 := HCELL2.out 2 _ rfl
      have y3 := HCELL2.out 3 _ rfl
      have y4 := HCELL2.out 4 _ rfl
      have y5 := HCELL2.out 5 _ rfl
      refine Sched.walkF_one (by rfl) (fun K hK => ?_)
      go_simp
      refine hK _ _ ?_
      clear hK K y0 y1 y2 y3 y4 y5
      repeat (first | (refine Sched.walkF_quiet (by rfl) (fun K hK => ?_); go_big_quiet_op; refine hK _ ?_; clear hK K) | (refine Sched.walkF_skip_quiet (by rfl) ?_; simp only [Act.put, List.setIfInBounds_toArray, List.set_cons_zero, List.set_cons_succ]))
      simp only [ofS0, Sched.picked, List.getElem?_cons_succ, List.getElem?_cons_zero, Option.getD_some]
      refine Sched.walkF_one (by rfl) (fun K hK => ?_)
      go_simp
      refine (GW.out _).mono ?_
      rintro e w3 ⟨rfl, hb3⟩
      refine hK _ _ ?_
      clear hK K
      have hrow3 := HROW.out.of_block (hb3.block _ HROW.out.lt)
      replace HW := Lib.hid (HW.out.below hb3)
      obtain ⟨⟨a0, f0⟩, ⟨a1c, f1⟩, ⟨a2, f2⟩, ⟨a3, f3⟩, ⟨a4, f4⟩, ⟨a5, f5⟩, ⟨a6, f6⟩, ⟨a7, f7⟩, hres⟩ := eight_set hrow3 (.int .i64 y.k.id) (.slice y.opsA y.k.ops.length y.opsC) (.bool y.k.edited) (.bool y.k.removed) (.bool y.k.created) (.bool y.k.moved) (.int .i64 y.k.parent) (.string (bstr y.k.name))
      have HO : Hid (Only g w3 _) := Lib.hid (((((((((Only.refl g w3).set 0 (.int .i64 y.k.id)).set 1 (.slice y.opsA y.k.ops.length y.opsC)).set 2 (.bool y.k.edited)).set 3 (.bool y.k.removed)).set 4 (.bool y.k.created)).set 5 (.bool y.k.moved)).set 6 (.int .i64 y.k.parent)).set 7 (.string (bstr y.k.name)))
      have HRES : Hid (World.rowIs _ g 37 8 (oneF y)) := Lib.hid hres
      have HREST3 := Lib.hid (CellsAt.below HREST2.out hb3)
      clear hres hrow3 hb3
      refine Sched.walkF_one (by rfl) (fun K hK => ?_)
      go_simp
      refine hK _ _ ?_
      clear hK K a0 f0 a1c f1 a2 f2 a3 f3 a4 f4 a5 f5 a6 f6 a7 f7
      have HREST4 := Lib.hid (CellsAt.only HREST3.out HO.out (fun b2 off2 q2 e => by have := HFAR.out b2 off2 q2 e; have := HBG.out; have := HG.out; omega))
      replace HW := Lib.hid (HW.out.only (by rw [HG.out]; exact HO.out))
      generalize World.setCell _ _ _ = w4 at HW HREST4 HRES HO ⊢
      clear HREST2 HREST3 HO HROW HCELL2 HBLT2 GW
      refine Sched.walkF_done ?_
      have hcut := HCUT.out
      by_cases hr0 : n = 0
      · have HR0 : Hid (rest = []) := Lib.hid (List.length_eq_zero_iff.1 (HN.out.trans hr0))
        have hz1 : ¬ (0 : Int) < (n : Int) := by omega
        have hz2 : decide (0 < n) = false := decide_eq_false (by omega)
        clear hr0
        go_upto_region 9 with fail
        clear hcut
        refine wp_region_held_lit (keepBlocks []) [(0, true), (1, true), (2, true), (3, true), (4, true), (5, true), (6, true), (7, true), (8, true), (9, true), (10, true), (11, true)] (by kernel_rfl) (by kernel_rfl) (by first | exact then_quiet downK_quiet0 | exact then_quiet (then_quiet downK_quiet0) | exact then_quiet (then_quiet (then_quiet downK_quiet0))) ?_
        replace HW := Lib.hid (HW.out.only (Only.refl _ _).drew)
        replace HRES := Lib.hid HRES.out.drew
        have HREST5 : Hid (ActRow w4.drew A0' rest) := Lib.hid (CellsAt.drew HREST4.out)
        clear HREST4
        generalize World.drew _ = w5 at HW HRES HREST5 ⊢
        simp only [picked, List.map_cons, List.map_nil, List.getElem?_cons_succ, List.getElem?_cons_zero, Option.getD_some]
        repeat (first | (refine wpH_quiet (by rfl) (fun K hK => ?_); go_big_quiet_op; refine hK _ ?_; clear hK K) | (refine wpH_skip (by rfl) ?_; simp only [Act.put, List.setIfInBounds_toArray, List.set_cons_zero, List.set_cons_succ]))
        refine wpH_nil ?_
        have HSAME : Hid (∀ c ∈ rest, c.id ≠ y.k.id) := Lib.hid (by rw [HR0.out]; intro c hc; cases hc)
        have HOW := Lib.hid (effOwn_any y HYG.out.1 HYG.out.2.1 w5 (HYG.out.2.2.below HW.out.bel))
        unfold oneCells at HOW
        obtain ⟨z0, z1, z2, z3, z4, z5, z6, z7⟩ := eight_cells (show World.rowIs w5 g 37 8 (eightV (.int .i64 y.k.id) (.slice y.opsA y.k.ops.length y.opsC) (.bool y.k.edited) (.bool y.k.removed) (.bool y.k.created) (.bool y.k.moved) (.int .i64 y.k.parent) (.string (bstr y.k.name))) from HRES.out)
        go_wp2_with fail
        clear z0 z1 z2 z3 z4 z5 z6 z7
        refine (HOW.out).mono ?_
        rintro e w6 ⟨⟨A2, c2, rfl, h1, h2, hown6⟩, hb6⟩
        have HMADE : Hid (Made1 w6 V ⟨y.k, A2, c2⟩) := Lib.hid ⟨⟨HYG.out.1.1, HYG.out.1.2.1, HYG.out.1.2.2.1, HYG.out.1.2.2.2.1, h1, h2⟩, own_base hown6 HW.out.up⟩
        have HRES6 := Lib.hid (HRES.out.of_block (hb6.block _ HRES.out.lt))
        have HREST6 := Lib.hid (CellsAt.below HREST5.out hb6)
        replace HW := Lib.hid (HW.out.below hb6)
        clear h1 h2 hown6 hb6 HRES HREST5 HOW
        have hll := HLL.out
        have HBL := Lib.hid ((Below.refl w6.heap.size w6).alloc (Nat.le_refl _) (Obj.cells (oneCells ⟨y.k, A2, c2⟩).toArray 37))
        have HWA := Lib.hid (HW.out.below HBL.out)
        have HRA := Lib.hid (CellsAt.below HREST6.out HBL.out)
        have HMA : Hid (Made1 _ V ⟨y.k, A2, c2⟩) := Lib.hid ⟨HMADE.out.1, own_below HMADE.out.2 HBL.out⟩
        have HXA := Lib.hid (HRES6.out.of_block (HBL.out.block _ HRES6.out.lt))
        go_wp2_with (at_builtin
                     go_loud (refine wpList_onee_keep rfl (.tmp 35) (.tmp 38) rfl (B := V) (out := L) (m := [⟨y.k, A2, c2⟩]) HWA.out.own HWA.out.up 1 (onee_lit w6 ⟨y.k, A2, c2⟩ _ rfl) (by simp; omega) rfl rfl ?_)
                     intro A7 c7 w7 hown hbel hkeep
                     have HO7 := Lib.hid hown
                     have HBE7 := Lib.hid hbel
                     have HK7 := Lib.hid hkeep
                     clear hown hbel hkeep)
        go_step3
        first | rw [downK_goto] | rw [then_goto, downK_goto] | rw [block_goto, then_goto, downK_goto] | rw [block_goto, downK_goto]
        have HYI2 : Hid (y.k.id = a1.id) := Lib.hid (by rw [HYK.out, effStep_id]; exact HID.out)
        have hN := HN.out
        have hgV : g < V := by have := HWA.out.base; have := HG.out; omega
        refine ⟨2 * rest.length + 1, ⟨V, m, p ++ (run ++ [a1]), rest, A0', c0 - 1, L ++ [⟨y.k, A2, c2⟩], A7, c7, oneF y, HRG.out, ?_, ?_, ?_, rfl⟩, by omega⟩
        · rw [HG.out]; exact OFr.mk ⟨rfl, by rw [hN]; rfl, rfl, by rw [List.length_append]; rfl, rfl⟩
        · exact HWA.out.next HRN.out (by rw [HYK.out, HXK.out]; exact (effOne_snoc run a1 a1.id).symm) (by rw [← HYI2.out]; exact HSAME.out) HRA.out (by rw [hN]; exact HCAP.out) (fun b3 off3 q3 e3 => by have h3 := HFAR.out b3 off3 q3 e3; rw [h3]; exact HBG.out) rfl HMA.out HO7.out HBE7.out HK7.out
        · rw [HG.out]; exact HXA.out.of_block (HBE7.out.block _ hgV)
      · have hz1 : (0 : Int) < (n : Int) := by omega
        have hz2 : decide (0 < n) = true := decide_eq_true (by omega)
        obtain ⟨a2, rest2, hr2⟩ : ∃ a2 rest2, rest = a2 :: rest2 := by
          cases rest with
          | nil => exact absurd HN.out.symm (by simpa using hr0)
          | cons a2 rest2 => exact ⟨a2, rest2, rfl⟩
        have HR2 := Lib.hid hr2
        clear hr0
        go_upto_region 9 with fail
        clear hcut
        obtain ⟨b2, off2, hA2, hlt2⟩ := ActRow.form HREST4.out (by rw [hr2]; simp)
        have hb2 := HFAR.out b2 off2 none hA2
        subst hb2
        subst hA2
        have hq : w4.cell? ⟨b2, off2 + 1, none⟩ = some (.int .i64 a2.id) := CellsAt.cell HREST4.out (by rw [hr2]; rfl)
        have hz := HRES.out.cell (i := 0) (by omega)
        have hne : b2 ≠ g := by have := HBG.out; have := HG.out; omega
        have HYI : Hid (y.k.id = a1.id) := Lib.hid (by rw [HYK.out, effStep_id]; exact HID.out)
        have e1 : ∀ e : ExtK (keepBlocks [b2, g]) w4.drew, e.val.cell? ⟨b2, off2 + 1, none⟩ = some (.int .i64 a2.id) := fun e => (cell_of_block (e.property.2 b2 (by simp)) _).trans hq
        have e2 : ∀ e : ExtK (keepBlocks [b2, g]) w4.drew, e.val.cell? ⟨g, 0, none⟩ = some (.int .i64 y.k.id) := fun e => (cell_of_block (e.property.2 g (by simp)) _).trans hz
        clear hq hz hr2
        refine wp_region_held_lit (keepBlocks [b2, g]) [(0, true), (1, true), (2, true), (3, true), (4, true), (5, true), (6, true), (7, true), (8, true), (9, true), (10, true), (11, true)] (by kernel_rfl) (by kernel_rfl) (by first | exact then_quiet downK_quiet0 | exact then_quiet (then_quiet downK_quiet0) | exact then_quiet (then_quiet (then_quiet downK_quiet0))) ?_
        replace HW := Lib.hid (HW.out.only (Only.refl _ _).drew)
        replace HRES := Lib.hid HRES.out.drew
        have HREST5 : Hid (ActRow w4.drew (some ⟨b2, off2, none⟩) rest) := Lib.hid (CellsAt.drew HREST4.out)
        clear HREST4
        generalize World.drew _ = w5 at HW HRES HREST5 e1 e2 ⊢
        simp only [picked, List.map_cons, List.map_nil, List.getElem?_cons_succ, List.getElem?_cons_zero, Option.getD_some]
        by_cases hsame : a2.id = y.k.id
        · have t1 : (a2.id == y.k.id) = true := beq_iff_eq.2 hsame
          have HS2 := Lib.hid hsame
          clear hsame
          repeat (first | (refine wpH_quiet (by rfl) (fun K hK => ?_); go_big_quiet_op; refine hK _ ?_; clear hK K) | (refine wpH_skip (by rfl) ?_; simp only [Act.put, List.setIfInBounds_toArray, List.set_cons_zero, List.set_cons_succ]))
          refine wpH_nil ?_
          clear e1 e2 hz1 hz2
          go_wp2
          go_step3
          first | rw [downK_goto] | rw [then_goto, downK_goto] | rw [block_goto, then_goto, downK_goto] | rw [block_goto, downK_goto]
          have hAI : a2.id = a1.id := HS2.out.trans HYI.out
          have hN := HN.out
          have hrr := HR2.out
          subst hrr
          rw [List.length_cons] at hN
          refine ⟨2 * (rest2.length + 1), ⟨V, m, p, run ++ [a1], y, a2, rest2, some ⟨b2, off2, none⟩, c0 - 1, L, A3, c3, HRG.out, ?_, ?_, ?_, ⟨?_, ?_, HYG.out.1, HYG.out.2.1, HYG.out.2.2⟩, rfl⟩, by omega⟩
          · rw [HG.out]; exact OFr.mk ⟨rfl, by rw [hN]; rfl, rfl, rfl, rfl⟩
          · have h := HW.out
            exact ⟨by rw [h.eq]; simp, h.len, h.held, h.rise, fun a ha b hb => h.low a ha b (by simp only [List.append_assoc, List.singleton_append] at hb; exact hb), HREST5.out, by rw [List.length_cons, hN]; exact HCAP.out, fun b off q e => by injection e with e; injection e with e; rw [← e]; exact HBG.out, h.own, h.map, h.good, h.bel, h.up, h.base, h.plen⟩
          · rw [HG.out]; exact HRES.out
          · rw [hAI, HYK.out, HXK.out]
            exact (effOne_snoc run a1 a1.id).symm
          · intro c hc
            rw [hAI]
            rcases List.mem_append.1 hc with hc | hc
            · exact HRN.out c hc
            · rw [List.mem_singleton.1 hc]
        · have t1 : (a2.id == y.k.id) = false := beq_eq_false_iff_ne.2 hsame
          have HS2 := Lib.hid hsame
          clear hsame
          repeat (first | (refine wpH_quiet (by rfl) (fun K hK => ?_); go_big_quiet_op; refine hK _ ?_; clear hK K) | (refine wpH_skip (by rfl) ?_; simp only [Act.put, List.setIfInBounds_toArray, List.set_cons_zero, List.set_cons_succ]))
          refine wpH_nil ?_
          clear e1 e2 hz1 hz2
          have HSAME : Hid (∀ c ∈ rest, c.id ≠ y.k.id) := Lib.hid (by
            intro c hc e
            have hris := HW.out.rise
            have h3 := HW.out.eq
            rw [HR2.out] at h3 hc
            rw [h3] at hris
            have h4 := (List.pairwise_append.1 (List.pairwise_append.1 hris).2.1).2.1
            have h5 := List.pairwise_cons.1 h4
            have h6 := (List.pairwise_cons.1 h5.2).1
            have h7 := h5.1 a2 (List.mem_cons_self ..)
            have h8 := HS2.out
            have h9 := HYI.out
            rcases List.mem_cons.1 hc with rfl | hc
            · exact h8 e
            · have := h6 c hc
              omega)
          have HOW := Lib.hid (effOwn_any y HYG.out.1 HYG.out.2.1 w5 (HYG.out.2.2.below HW.out.bel))
          unfold oneCells at HOW
          obtain ⟨z0, z1, z2, z3, z4, z5, z6, z7⟩ := eight_cells (show World.rowIs w5 g 37 8 (eightV (.int .i64 y.k.id) (.slice y.opsA y.k.ops.length y.opsC) (.bool y.k.edited) (.bool y.k.removed) (.bool y.k.created) (.bool y.k.moved) (.int .i64 y.k.parent) (.string (bstr y.k.name))) from HRES.out)
          go_wp2_with fail
          clear z0 z1 z2 z3 z4 z5 z6 z7
          refine (HOW.out).mono ?_
          rintro e w6 ⟨⟨A2, c2, rfl, h1, h2, hown6⟩, hb6⟩
          have HMADE : Hid (Made1 w6 V ⟨y.k, A2, c2⟩) := Lib.hid ⟨⟨HYG.out.1.1, HYG.out.1.2.1, HYG.out.1.2.2.1, HYG.out.1.2.2.2.1, h1, h2⟩, own_base hown6 HW.out.up⟩
          have HRES6 := Lib.hid (HRES.out.of_block (hb6.block _ HRES.out.lt))
          have HREST6 := Lib.hid (CellsAt.below HREST5.out hb6)
          replace HW := Lib.hid (HW.out.below hb6)
          clear h1 h2 hown6 hb6 HRES HREST5 HOW
          have hll := HLL.out
          have HBL := Lib.hid ((Below.refl w6.heap.size w6).alloc (Nat.le_refl _) (Obj.cells (oneCells ⟨y.k, A2, c2⟩).toArray 37))
          have HWA := Lib.hid (HW.out.below HBL.out)
          have HRA := Lib.hid (CellsAt.below HREST6.out HBL.out)
          have HMA : Hid (Made1 _ V ⟨y.k, A2, c2⟩) := Lib.hid ⟨HMADE.out.1, own_below HMADE.out.2 HBL.out⟩
          have HXA := Lib.hid (HRES6.out.of_block (HBL.out.block _ HRES6.out.lt))
          go_wp2_with (at_builtin
                       go_loud (refine wpList_onee_keep rfl (.tmp 35) (.tmp 38) rfl (B := V) (out := L) (m := [⟨y.k, A2, c2⟩]) HWA.out.own HWA.out.up 1 (onee_lit w6 ⟨y.k, A2, c2⟩ _ rfl) (by simp; omega) rfl rfl ?_)
                       intro A7 c7 w7 hown hbel hkeep
                       have HO7 := Lib.hid hown
                       have HBE7 := Lib.hid hbel
                       have HK7 := Lib.hid hkeep
                       clear hown hbel hkeep)
          go_step3
          first | rw [downK_goto] | rw [then_goto, downK_goto] | rw [block_goto, then_goto, downK_goto] | rw [block_goto, downK_goto]
          have HYI2 : Hid (y.k.id = a1.id) := Lib.hid (by rw [HYK.out, effStep_id]; exact HID.out)
          have hN := HN.out
          have hgV : g < V := by have := HWA.out.base; have := HG.out; omega
          refine ⟨2 * rest.length + 1, ⟨V, m, p ++ (run ++ [a1]), rest, (some ⟨b2, off2, none⟩), c0 - 1, L ++ [⟨y.k, A2, c2⟩], A7, c7, oneF y, HRG.out, ?_, ?_, ?_, rfl⟩, by omega⟩
          · rw [HG.out]; exact OFr.mk ⟨rfl, by rw [hN]; rfl, rfl, by rw [List.length_append]; rfl, rfl⟩
          · exact HWA.out.next HRN.out (by rw [HYK.out, HXK.out]; exact (effOne_snoc run a1 a1.id).symm) (by rw [← HYI2.out]; exact HSAME.out) HRA.out (by rw [hN]; exact HCAP.out) (fun b3 off3 q3 e3 => by have h3 := HFAR.out b3 off3 q3 e3; rw [h3]; exact HBG.out) rfl HMA.out HO7.out HBE7.out HK7.out
          · rw [HG.out]; exact HXA.out.of_block (HBE7.out.block _ hgV)
    · skip
      have y0 := HCELL2.out 0 _ rfl
      rw [Nat.add_zero] at y0
      have y1 := HCELL2.out 1 _ rfl
      have y2 := HCELL2.out 2 _ rfl
      have y3 := HCELL2.out 3 _ rfl
      have y4 := HCELL2.out 4 _ rfl
      have y5 := HCELL2.out 5 _ rfl
      refine Sched.walkF_one (by rfl) (fun K hK => ?_)
      go_simp
      refine hK _ _ ?_
      clear hK K y0 y1 y2 y3 y4 y5
      repeat (first | (refine Sched.walkF_quiet (by rfl) (fun K hK => ?_); go_big_quiet_op; refine hK _ ?_; clear hK K) | (refine Sched.walkF_skip_quiet (by rfl) ?_; simp only [Act.put, List.setIfInBounds_toArray, List.set_cons_zero, List.set_cons_succ]))
      obtain ⟨z0, z1, z2, z3, z4, z5, z6, z7⟩ := eight_cells (show World.rowIs wd g 37 8 (eightV (.int .i64 x.k.id) (.slice x.opsA x.k.ops.length x.opsC) (.bool x.k.edited) (.bool x.k.removed) (.bool x.k.created) (.bool x.k.moved) (.int .i64 x.k.parent) (.string (bstr x.k.name))) from HROW.out)
      refine Sched.walkF_one (by rfl) (fun K hK => ?_)
      go_simp
      refine hK _ _ ?_
      clear hK K z0 z1 z2 z3 z4 z5 z6 z7
      repeat (first | (refine Sched.walkF_quiet (by rfl) (fun K hK => ?_); go_big_quiet_op; refine hK _ ?_; clear hK K) | (refine Sched.walkF_skip_quiet (by rfl) ?_; simp only [Act.put, List.setIfInBounds_toArray, List.set_cons_zero, List.set_cons_succ]))
      simp only [ofS0, Sched.picked, List.getElem?_cons_succ, List.getElem?_cons_zero, Option.getD_some]
      refine Sched.walkF_one (by rfl) (fun K hK => ?_)
      go_simp
      refine (GW.out _).mono ?_
      rintro e w3 ⟨rfl, hb3⟩
      refine hK _ _ ?_
      clear hK K
      have hrow3 := HROW.out.of_block (hb3.block _ HROW.out.lt)
      replace HW := Lib.hid (HW.out.below hb3)
      obtain ⟨⟨a0, f0⟩, ⟨a1c, f1⟩, ⟨a2, f2⟩, ⟨a3, f3⟩, ⟨a4, f4⟩, ⟨a5, f5⟩, ⟨a6, f6⟩, ⟨a7, f7⟩, hres⟩ := eight_set hrow3 (.int .i64 y.k.id) (.slice y.opsA y.k.ops.length y.opsC) (.bool y.k.edited) (.bool y.k.removed) (.bool y.k.created) (.bool y.k.moved) (.int .i64 y.k.parent) (.string (bstr y.k.name))
      have HO : Hid (Only g w3 _) := Lib.hid (((((((((Only.refl g w3).set 0 (.int .i64 y.k.id)).set 1 (.slice y.opsA y.k.ops.length y.opsC)).set 2 (.bool y.k.edited)).set 3 (.bool y.k.removed)).set 4 (.bool y.k.created)).set 5 (.bool y.k.moved)).set 6 (.int .i64 y.k.parent)).set 7 (.string (bstr y.k.name)))
      have HRES : Hid (World.rowIs _ g 37 8 (oneF y)) := Lib.hid hres
      have HREST3 := Lib.hid (CellsAt.below HREST2.out hb3)
      clear hres hrow3 hb3
      refine Sched.walkF_one (by rfl) (fun K hK => ?_)
      go_simp
      refine hK _ _ ?_
      clear hK K a0 f0 a1c f1 a2 f2 a3 f3 a4 f4 a5 f5 a6 f6 a7 f7
      have HREST4 := Lib.hid (CellsAt.only HREST3.out HO.out (fun b2 off2 q2 e => by have := HFAR.out b2 off2 q2 e; have := HBG.out; have := HG.out; omega))
      replace HW := Lib.hid (HW.out.only (by rw [HG.out]; exact HO.out))
      generalize World.setCell _ _ _ = w4 at HW HREST4 HRES HO ⊢
      clear HREST2 HREST3 HO HROW HCELL2 HBLT2 GW
      refine Sched.walkF_done ?_
      have hcut := HCUT.out
      by_cases hr0 : n = 0
      · have HR0 : Hid (rest = []) := Lib.hid (List.length_eq_zero_iff.1 (HN.out.trans hr0))
        have hz1 : ¬ (0 : Int) < (n : Int) := by omega
        have hz2 : decide (0 < n) = false := decide_eq_false (by omega)
        clear hr0
        go_upto_region 9 with fail
        clear hcut
        refine wp_region_held_lit (keepBlocks []) [(0, true), (1, true), (2, true), (3, true), (4, true), (5, true), (6, true), (7, true), (8, true), (9, true), (10, true), (11, true)] (by kernel_rfl) (by kernel_rfl) (by first | exact then_quiet downK_quiet0 | exact then_quiet (then_quiet downK_quiet0) | exact then_quiet (then_quiet (then_quiet downK_quiet0))) ?_
        replace HW := Lib.hid (HW.out.only (Only.refl _ _).drew)
        replace HRES := Lib.hid HRES.out.drew
        have HREST5 : Hid (ActRow w4.drew A0' rest) := Lib.hid (CellsAt.drew HREST4.out)
        clear HREST4
        generalize World.drew _ = w5 at HW HRES HREST5 ⊢
        simp only [picked, List.map_cons, List.map_nil, List.getElem?_cons_succ, List.getElem?_cons_zero, Option.getD_some]
        repeat (first | (refine wpH_quiet (by rfl) (fun K hK => ?_); go_big_quiet_op; refine hK _ ?_; clear hK K) | (refine wpH_skip (by rfl) ?_; simp only [Act.put, List.setIfInBounds_toArray, List.set_cons_zero, List.set_cons_succ]))
        refine wpH_nil ?_
        have HSAME : Hid (∀ c ∈ rest, c.id ≠ y.k.id) := Lib.hid (by rw [HR0.out]; intro c hc; cases hc)
        have HOW := Lib.hid (effOwn_any y HYG.out.1 HYG.out.2.1 w5 (HYG.out.2.2.below HW.out.bel))
        unfold oneCells at HOW
        obtain ⟨z0, z1, z2, z3, z4, z5, z6, z7⟩ := eight_cells (show World.rowIs w5 g 37 8 (eightV (.int .i64 y.k.id) (.slice y.opsA y.k.ops.length y.opsC) (.bool y.k.edited) (.bool y.k.removed) (.bool y.k.created) (.bool y.k.moved) (.int .i64 y.k.parent) (.string (bstr y.k.name))) from HRES.out)
        go_wp2_with fail
        clear z0 z1 z2 z3 z4 z5 z6 z7
        refine (HOW.out).mono ?_
        rintro e w6 ⟨⟨A2, c2, rfl, h1, h2, hown6⟩, hb6⟩
        have HMADE : Hid (Made1 w6 V ⟨y.k, A2, c2⟩) := Lib.hid ⟨⟨HYG.out.1.1, HYG.out.1.2.1, HYG.out.1.2.2.1, HYG.out.1.2.2.2.1, h1, h2⟩, own_base hown6 HW.out.up⟩
        have HRES6 := Lib.hid (HRES.out.of_block (hb6.block _ HRES.out.lt))
        have HREST6 := Lib.hid (CellsAt.below HREST5.out hb6)
        replace HW := Lib.hid (HW.out.below hb6)
        clear h1 h2 hown6 hb6 HRES HREST5 HOW
        have hll := HLL.out
        have HBL := Lib.hid ((Below.refl w6.heap.size w6).alloc (Nat.le_refl _) (Obj.cells (oneCells ⟨y.k, A2, c2⟩).toArray 37))
        have HWA := Lib.hid (HW.out.below HBL.out)
        have HRA := Lib.hid (CellsAt.below HREST6.out HBL.out)
        have HMA : Hid (Made1 _ V ⟨y.k, A2, c2⟩) := Lib.hid ⟨HMADE.out.1, own_below HMADE.out.2 HBL.out⟩
        have HXA := Lib.hid (HRES6.out.of_block (HBL.out.block _ HRES6.out.lt))
        go_wp2_with (at_builtin
                     go_loud (refine wpList_onee_keep rfl (.tmp 35) (.tmp 38) rfl (B := V) (out := L) (m := [⟨y.k, A2, c2⟩]) HWA.out.own HWA.out.up 1 (onee_lit w6 ⟨y.k, A2, c2⟩ _ rfl) (by simp; omega) rfl rfl ?_)
                     intro A7 c7 w7 hown hbel hkeep
                     have HO7 := Lib.hid hown
                     have HBE7 := Lib.hid hbel
                     have HK7 := Lib.hid hkeep
                     clear hown hbel hkeep)
        go_step3
        first | rw [downK_goto] | rw [then_goto, downK_goto] | rw [block_goto, then_goto, downK_goto] | rw [block_goto, downK_goto]
        have HYI2 : Hid (y.k.id = a1.id) := Lib.hid (by rw [HYK.out, effStep_id]; exact HID.out)
        have hN := HN.out
        have hgV : g < V := by have := HWA.out.base; have := HG.out; omega
        refine ⟨2 * rest.length + 1, ⟨V, m, p ++ (run ++ [a1]), rest, A0', c0 - 1, L ++ [⟨y.k, A2, c2⟩], A7, c7, oneF y, HRG.out, ?_, ?_, ?_, rfl⟩, by omega⟩
        · rw [HG.out]; exact OFr.mk ⟨rfl, by rw [hN]; rfl, rfl, by rw [List.length_append]; rfl, rfl⟩
        · exact HWA.out.next HRN.out (by rw [HYK.out, HXK.out]; exact (effOne_snoc run a1 a1.id).symm) (by rw [← HYI2.out]; exact HSAME.out) HRA.out (by rw [hN]; exact HCAP.out) (fun b3 off3 q3 e3 => by have h3 := HFAR.out b3 off3 q3 e3; rw [h3]; exact HBG.out) rfl HMA.out HO7.out HBE7.out HK7.out
        · rw [HG.out]; exact HXA.out.of_block (HBE7.out.block _ hgV)
      · have hz1 : (0 : Int) < (n : Int) := by omega
        have hz2 : decide (0 < n) = true := decide_eq_true (by omega)
        obtain ⟨a2, rest2, hr2⟩ : ∃ a2 rest2, rest = a2 :: rest2 := by
          cases rest with
          | nil => exact absurd HN.out.symm (by simpa using hr0)
          | cons a2 rest2 => exact ⟨a2, rest2, rfl⟩
        have HR2 := Lib.hid hr2
        clear hr0
        go_upto_region 9 with fail
        clear hcut
        obtain ⟨b2, off2, hA2, hlt2⟩ := ActRow.form HREST4.out (by rw [hr2]; simp)
        have hb2 := HFAR.out b2 off2 none hA2
        subst hb2
        subst hA2
        have hq : w4.cell? ⟨b2, off2 + 1, none⟩ = some (.int .i64 a2.id) := CellsAt.cell HREST4.out (by rw [hr2]; rfl)
        have hz := HRES.out.cell (i := 0) (by omega)
        have hne : b2 ≠ g := by have := HBG.out; have := HG.out; omega
        have HYI : Hid (y.k.id = a1.id) := Lib.hid (by rw [HYK.out, effStep_id]; exact HID.out)
        have e1 : ∀ e : ExtK (keepBlocks [b2, g]) w4.drew, e.val.cell? ⟨b2, off2 + 1, none⟩ = some (.int .i64 a2.id) := fun e => (cell_of_block (e.property.2 b2 (by simp)) _).trans hq
        have e2 : ∀ e : ExtK (keepBlocks [b2, g]) w4.drew, e.val.cell? ⟨g, 0, none⟩ = some (.int .i64 y.k.id) := fun e => (cell_of_block (e.property.2 g (by simp)) _).trans hz
        clear hq hz hr2
        refine wp_region_held_lit (keepBlocks [b2, g]) [(0, true), (1, true), (2, true), (3, true), (4, true), (5, true), (6, true), (7, true), (8, true), (9, true), (10, true), (11, true)] (by kernel_rfl) (by kernel_rfl) (by first | exact then_quiet downK_quiet0 | exact then_quiet (then_quiet downK_quiet0) | exact then_quiet (then_quiet (then_quiet downK_quiet0))) ?_
        replace HW := Lib.hid (HW.out.only (Only.refl _ _).drew)
        replace HRES := Lib.hid HRES.out.drew
        have HREST5 : Hid (ActRow w4.drew (some ⟨b2, off2, none⟩) rest) := Lib.hid (CellsAt.drew HREST4.out)
        clear HREST4
        generalize World.drew _ = w5 at HW HRES HREST5 e1 e2 ⊢
        simp only [picked, List.map_cons, List.map_nil, List.getElem?_cons_succ, List.getElem?_cons_zero, Option.getD_some]
        by_cases hsame : a2.id = y.k.id
        · have t1 : (a2.id == y.k.id) = true := beq_iff_eq.2 hsame
          have HS2 := Lib.hid hsame
          clear hsame
          repeat (first | (refine wpH_quiet (by rfl) (fun K hK => ?_); go_big_quiet_op; refine hK _ ?_; clear hK K) | (refine wpH_skip (by rfl) ?_; simp only [Act.put, List.setIfInBounds_toArray, List.set_cons_zero, List.set_cons_succ]))
          refine wpH_nil ?_
          clear e1 e2 hz1 hz2
          go_wp2
          go_step3
          first | rw [downK_goto] | rw [then_goto, downK_goto] | rw [block_goto, then_goto, downK_goto] | rw [block_goto, downK_goto]
          have hAI : a2.id = a1.id := HS2.out.trans HYI.out
          have hN := HN.out
          have hrr := HR2.out
          subst hrr
          rw [List.length_cons] at hN
          refine ⟨2 * (rest2.length + 1), ⟨V, m, p, run ++ [a1], y, a2, rest2, some ⟨b2, off2, none⟩, c0 - 1, L, A3, c3, HRG.out, ?_, ?_, ?_, ⟨?_, ?_, HYG.out.1, HYG.out.2.1, HYG.out.2.2⟩, rfl⟩, by omega⟩
          · rw [HG.out]; exact OFr.mk ⟨rfl, by rw [hN]; rfl, rfl, rfl, rfl⟩
          · have h := HW.out
            exact ⟨by rw [h.eq]; simp, h.len, h.held, h.rise, fun a ha b hb => h.low a ha b (by simp only [List.append_assoc, List.singleton_append] at hb; exact hb), HREST5.out, by rw [List.length_cons, hN]; exact HCAP.out, fun b off q e => by injection e with e; injection e with e; rw [← e]; exact HBG.out, h.own, h.map, h.good, h.bel, h.up, h.base, h.plen⟩
          · rw [HG.out]; exact HRES.out
          · rw [hAI, HYK.out, HXK.out]
            exact (effOne_snoc run a1 a1.id).symm
          · intro c hc
            rw [hAI]
            rcases List.mem_append.1 hc with hc | hc
            · exact HRN.out c hc
            · rw [List.mem_singleton.1 hc]
        · have t1 : (a2.id == y.k.id) = false := beq_eq_false_iff_ne.2 hsame
          have HS2 := Lib.hid hsame
          clear hsame
          repeat (first | (refine wpH_quiet (by rfl) (fun K hK => ?_); go_big_quiet_op; refine hK _ ?_; clear hK K) | (refine wpH_skip (by rfl) ?_; simp only [Act.put, List.setIfInBounds_toArray, List.set_cons_zero, List.set_cons_succ]))
          refine wpH_nil ?_
          clear e1 e2 hz1 hz2
          have HSAME : Hid (∀ c ∈ rest, c.id ≠ y.k.id) := Lib.hid (by
            intro c hc e
            have hris := HW.out.rise
            have h3 := HW.out.eq
            rw [HR2.out] at h3 hc
            rw [h3] at hris
            have h4 := (List.pairwise_append.1 (List.pairwise_append.1 hris).2.1).2.1
            have h5 := List.pairwise_cons.1 h4
            have h6 := (List.pairwise_cons.1 h5.2).1
            have h7 := h5.1 a2 (List.mem_cons_self ..)
            have h8 := HS2.out
            have h9 := HYI.out
            rcases List.mem_cons.1 hc with rfl | hc
            · exact h8 e
            · have := h6 c hc
              omega)
          have HOW := Lib.hid (effOwn_any y HYG.out.1 HYG.out.2.1 w5 (HYG.out.2.2.below HW.out.bel))
          unfold oneCells at HOW
          obtain ⟨z0, z1, z2, z3, z4, z5, z6, z7⟩ := eight_cells (show World.rowIs w5 g 37 8 (eightV (.int .i64 y.k.id) (.slice y.opsA y.k.ops.length y.opsC) (.bool y.k.edited) (.bool y.k.removed) (.bool y.k.created) (.bool y.k.moved) (.int .i64 y.k.parent) (.string (bstr y.k.name))) from HRES.out)
          go_wp2_with fail
          clear z0 z1 z2 z3 z4 z5 z6 z7
          refine (HOW.out).mono ?_
          rintro e w6 ⟨⟨A2, c2, rfl, h1, h2, hown6⟩, hb6⟩
          have HMADE : Hid (Made1 w6 V ⟨y.k, A2, c2⟩) := Lib.hid ⟨⟨HYG.out.1.1, HYG.out.1.2.1, HYG.out.1.2.2.1, HYG.out.1.2.2.2.1, h1, h2⟩, own_base hown6 HW.out.up⟩
          have HRES6 := Lib.hid (HRES.out.of_block (hb6.block _ HRES.out.lt))
          have HREST6 := Lib.hid (CellsAt.below HREST5.out hb6)
          replace HW := Lib.hid (HW.out.below hb6)
          clear h1 h2 hown6 hb6 HRES HREST5 HOW
          have hll := HLL.out
          have HBL := Lib.hid ((Below.refl w6.heap.size w6).alloc (Nat.le_refl _) (Obj.cells (oneCells ⟨y.k, A2, c2⟩).toArray 37))
          have HWA := Lib.hid (HW.out.below HBL.out)
          have HRA := Lib.hid (CellsAt.below HREST6.out HBL.out)
          have HMA : Hid (Made1 _ V ⟨y.k, A2, c2⟩) := Lib.hid ⟨HMADE.out.1, own_below HMADE.out.2 HBL.out⟩
          have HXA := Lib.hid (HRES6.out.of_block (HBL.out.block _ HRES6.out.lt))
          go_wp2_with (at_builtin
                       go_loud (refine wpList_onee_keep rfl (.tmp 35) (.tmp 38) rfl (B := V) (out := L) (m := [⟨y.k, A2, c2⟩]) HWA.out.own HWA.out.up 1 (onee_lit w6 ⟨y.k, A2, c2⟩ _ rfl) (by simp; omega) rfl rfl ?_)
                       intro A7 c7 w7 hown hbel hkeep
                       have HO7 := Lib.hid hown
                       have HBE7 := Lib.hid hbel
                       have HK7 := Lib.hid hkeep
                       clear hown hbel hkeep)
          go_step3
          first | rw [downK_goto] | rw [then_goto, downK_goto] | rw [block_goto, then_goto, downK_goto] | rw [block_goto, downK_goto]
          have HYI2 : Hid (y.k.id = a1.id) := Lib.hid (by rw [HYK.out, effStep_id]; exact HID.out)
          have hN := HN.out
          have hgV : g < V := by have := HWA.out.base; have := HG.out; omega
          refine ⟨2 * rest.length + 1, ⟨V, m, p ++ (run ++ [a1]), rest, (some ⟨b2, off2, none⟩), c0 - 1, L ++ [⟨y.k, A2, c2⟩], A7, c7, oneF y, HRG.out, ?_, ?_, ?_, rfl⟩, by omega⟩
          · rw [HG.out]; exact OFr.mk ⟨rfl, by rw [hN]; rfl, rfl, by rw [List.length_append]; rfl, rfl⟩
          · exact HWA.out.next HRN.out (by rw [HYK.out, HXK.out]; exact (effOne_snoc run a1 a1.id).symm) (by rw [← HYI2.out]; exact HSAME.out) HRA.out (by rw [hN]; exact HCAP.out) (fun b3 off3 q3 e3 => by have h3 := HFAR.out b3 off3 q3 e3; rw [h3]; exact HBG.out) rfl HMA.out HO7.out HBE7.out HK7.out
          · rw [HG.out]; exact HXA.out.of_block (HBE7.out.block _ hgV)
  case p0 =>
    clear HBX GBB HST
    intro P1
    have P1' := Lib.hid P1
    clear P1
    rintro k act w2 ⟨V, m, p, rest, A0, c0, L, A3, c3, f8, hr, hf, hw, hrow, rfl⟩
    obtain ⟨F, rfl⟩ := hf.out
    clear hf
    rw [HG.out] at hrow ⊢
    have HRG := Lib.hid hr
    have HW := Lib.hid hw
    have HROW := Lib.hid hrow
    clear hr hrow
    cases rest with
    | nil =>
      clear hw
      go_wp2
      first | rw [downK_ret] | rw [then_ret, downK_ret]
      go_ret
      have h := HW.out
      have he : m = p := by have := h.eq; simpa using this
      exact ⟨m, HRG.out, L, A3, c3, rfl, ⟨V, h.base, h.own, h.good⟩, by rw [h.map, he], h.bel⟩
    | cons a1 rest =>
      obtain ⟨b, off, A0', rfl, hblt, hcell, hcut, hrest, hcap', hfar'⟩ := acts_next hw.acts hw.cap
      clear hcut hrest hcap' hfar'
      have y1 := hcell 1 _ rfl
      have hrl : rest.length + 1 ≤ 1048576 := by have := hw.rlen; simpa using this
      have hid : Fit64 a1.id := (hw.mem (List.mem_cons_self ..)).1.1.2.1
      have HFID := Lib.hid hid
      obtain ⟨n, HN⟩ : ∃ n, Hid (rest.length = n) := ⟨_, Lib.hid rfl⟩
      rw [List.length_cons, HN.out]
      rw [HN.out] at hrl
      have hn0 : ¬ n + 1 = 0 := by omega
      have hn1 : (((n + 1 : Nat) : Int) == 0) = false := beq_eq_false_iff_ne.2 (by omega)
      have hn2 : ((n : Int) + 1 == 0) = false := beq_eq_false_iff_ne.2 (by omega)
      obtain ⟨⟨a0, f0⟩, ⟨a1c, f1⟩, ⟨a2, f2⟩, ⟨a3, f3⟩, ⟨a4, f4⟩, ⟨a5, f5⟩, ⟨a6, f6⟩, ⟨a7, f7⟩, hres⟩ := eight_set HROW.out (.int .i64 a1.id) (.slice none 0 0) (.bool false) (.bool false) (.bool false) (.bool false) (.int .i64 0) (.string { data := #[] })
      have HRES : Hid (World.rowIs _ g 37 8 (oneF ⟨oneZ a1.id, none, 0⟩)) := Lib.hid hres
      have HO : Hid (Only g w2 _) := Lib.hid (((((((((Only.refl g w2).set 0 (.int .i64 a1.id)).set 1 (.slice none 0 0)).set 2 (.bool false)).set 3 (.bool false)).set 4 (.bool false)).set 5 (.bool false)).set 6 (.int .i64 0)).set 7 (.string { data := #[] }))
      clear hw hcell hres hid hblt
      go_wp2
      clear a0 f0 a1c f1 a2 f2 a3 f3 a4 f4 a5 f5 a6 f6 a7 f7 y1
      replace HW := Lib.hid (HW.out.only (by rw [HG.out]; exact HO.out))
      generalize World.setCell _ _ _ = w3 at HW HRES ⊢
      go_step3
      rename_i K hK
      refine hK _ _ (downK_mono (by have := HN.out; omega) (P1'.out (2 * (rest.length + 1)) _ _ ⟨V, m, p, [], ⟨oneZ a1.id, none, 0⟩, a1, rest, some ⟨b, off, none⟩, c0, L, A3, c3, HRG.out, ?_, HW.out, ?_, ⟨rfl, fun b hb => (by cases hb), one_made a1.id HFID.out, ⟨held_nil, Nat.zero_le _⟩, .inl rfl⟩, rfl⟩))
      · rw [HG.out, HN.out]; exact OFr.mk ⟨rfl, rfl, rfl, rfl, rfl⟩
      · rw [HG.out]; exact HRES.out
end Go.Proofs.Ytnadhpajelkngaa
