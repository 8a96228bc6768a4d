/- The statements' own 'awake' answers true. No condition. -/
import Derived.Test.YtnjgjkfdblpddaaDiskShows
namespace Go.Proofs.Ytnjgjkfdblpddaa
open Go.RowKit Go.Deep

theorem awake_write : (DiskD.new 8).write 3 (blks 64 1) = (⟨List.replicate 8 none, [(3, blks 64 1)], -1, false, 1⟩, 0) := by
  have hl := blks_length 64 1
  rw [DiskD.write, if_neg (by decide), if_neg ?_]
  · rfl
  · rw [hl]
    decide
theorem awake_none : (DiskD.crash ⟨List.replicate 8 none, [(3, blks 64 1)], -1, false, 1⟩ []).look 3 = none := by
  have h : keptN (pk [] 0) [(3, blks 64 1)] 1 = [] := by rw [keptN_no (by decide), keptN_zero]
  show over 3 [] ((laidN _ _ (keptN (pk [] 0) [(3, blks 64 1)] 1) (List.replicate 8 none) (keptN (pk [] 0) [(3, blks 64 1)] 1).length)[3]?.getD none) = none
  rw [h, List.length_nil, laidN_zero]
  rfl
theorem awake_one : (DiskD.crash ⟨List.replicate 8 none, [(3, blks 64 1)], -1, false, 1⟩ [1]).look 3 = some (blks 64 1) := by
  have h : keptN (pk [1] 0) [(3, blks 64 1)] 1 = [(3, blks 64 1)] := by
    rw [keptN_yes (by decide) (by simp), keptN_zero]
    rfl
  show over 3 [] ((laidN (tornAt [1] (keptN (pk [1] 0) [(3, blks 64 1)] 1).length) _ (keptN (pk [1] 0) [(3, blks 64 1)] 1) (List.replicate 8 none) (keptN (pk [1] 0) [(3, blks 64 1)] 1).length)[3]?.getD none) = _
  rw [h, List.length_singleton, laidN_next (by simp), laidN_zero]
  show ((List.set (List.replicate 8 none) 3 (some (laidB (tornAt [1] 1) _ _ 0 (3, blks 64 1))))[3]?).getD none = _
  rw [List.getElem?_set_self (by simp)]
  show some (laidB (tornAt [1] 1) _ _ 0 (3, blks 64 1)) = _
  rw [laidB, if_neg (by decide)]
theorem some_noughts : (noughts)[0]? = some 0 := rfl

set_option maxHeartbeats 4000000 in
set_option maxRecDepth 100000 in
theorem awake_any (w : World) : Calls Try.prog 8 #[] w fun e w' => e = .returned (.bool true) ∧ Below w.heap.size w w' := by
  have GN := Lib.hid (fun w => landNew_any 8 w)
  have GZ := Lib.hid (fun w => landNew_any 0 w)
  have GB := Lib.hid (fun w => block_any 1 w)
  have hwr := Lib.hid awake_write; have hcn := Lib.hid awake_none; have hco := Lib.hid awake_one
  have HL64 := Lib.hid (blks_length 64 1)
  obtain ⟨B, HB⟩ : ∃ B, Hid (blks 64 1 = B) := ⟨_, Lib.hid rfl⟩
  rw [HB.out] at GB hwr hcn hco HL64
  have HGD := Lib.hid ((good_new (k := 8) (by omega) (by omega)).write 3 B)
  rw [hwr.out] at HGD
  obtain ⟨D1, HD1⟩ : ∃ D, Hid (DiskD.mk (List.replicate 8 none) [(3, B)] (-1) false 1 = D) := ⟨_, Lib.hid rfl⟩
  rw [HD1.out] at hwr hcn hco HGD
  simp only at HGD
  go_enter Try.func8, Try.ntmps8
  go_wp2_with fail
  refine (GN.out _).mono ?_
  rintro e w1 (⟨h, _⟩ | ⟨k, g, hk, _, _, rfl, hl, hg, hb⟩)
  · omega
  obtain rfl : k = 8 := by omega
  have HL1 := Lib.hid hl; have HB1 := Lib.hid hb
  clear hl hb hg hk
  go_wp2_with fail
  refine (GZ.out _).mono ?_
  rintro e w' (⟨_, rfl, rfl⟩ | ⟨k, _, hk, h1, _⟩)
  rotate_left
  · omega
  go_wp2_with fail
  refine (GB.out _).mono ?_
  rintro e w2 ⟨gb, cb, rfl, hat, hge, hlt, hbel⟩
  have HAT := Lib.hid hat; have HGE := Lib.hid hge; have HB2 := Lib.hid hbel
  clear hat hge hlt hbel
  go_wp2_with fail
  refine (landWrite_any _ g (DiskD.new 8) (by simp [DiskD.new]) (by simp [DiskD.new]) 3 (some ⟨gb, 0, none⟩) B cb w2 HAT.out (fun x hx => by injection hx with hx; subst hx; show gb ≠ g; have := HL1.out.lt; have := HGE.out; omega) (HL1.out.below HB2.out)).mono ?_
  rw [hwr.out]
  rintro e w3 ⟨rfl, O3, hO3, hl3, hoff⟩
  have HL3 := Lib.hid hl3
  have HB3 : Hid (Below w.heap.size w w3) := hoff.below (HB1.out.trans (HB2.out.mono HB1.out.size)) fun x hx => hx.1
  clear hO3 hl3 hoff
  go_wp2_with fail
  refine (landCrash_any _ g D1 (Nat.le_trans HGD.out.cached (by omega)) HGD.out.fit none [] 0 w3 .nil HL3.out).mono ?_
  rintro e w4 ⟨ga, rfl, hl4, hg4, hb4⟩
  have HL4 := Lib.hid hl4; have HB4 := Lib.hid hb4
  clear hl4 hg4 hb4
  go_wp2_with fail
  have hb5 : Below w4.heap.size w4 (w4.alloc (.cells #[.int .i64 1] 3)) := (Below.refl _ _).alloc (Nat.le_refl _) _
  have hat : IntsAt (w4.alloc (.cells #[.int .i64 1] 3)) (some ⟨w4.heap.size, 0, none⟩) [1] := IntsAt.lit (fun j x hx => by
    match j, hx with
    | 0, hx => injection hx with hx; subst hx; rfl
    | j + 1, hx => simp at hx) rfl
  have gc := landCrash_any _ g D1 (Nat.le_trans HGD.out.cached (by omega)) HGD.out.fit (some ⟨w4.heap.size, 0, none⟩) [1] 1 _ hat ((HL3.out.below HB4.out).below hb5)
  rw [List.length_singleton] at gc
  refine gc.mono ?_
  clear gc hat
  rintro e w6 ⟨gc, rfl, hl6, hg6, hb6⟩
  have HL6 := Lib.hid hl6
  have HB6 : Hid (Below w4.heap.size w4 w6) := hb5.trans (hb6.mono hb5.size)
  clear hl6 hg6 hb6 hb5
  go_wp2_with fail
  refine (landRead_any _ ga (D1.crash []) 3 w6 (HL4.out.below HB6.out)).mono ?_
  rintro e w7 (⟨h, _⟩ | ⟨q, A1, c1, hq, _, rfl, hat, hb7⟩)
  · have h8 : (D1.crash []).safe.length = 8 := by
      show (laidN _ _ _ _ _).length = 8
      rw [laidN_length, ← HD1.out]
      rfl
    omega
  obtain rfl : q = 3 := by omega
  rw [hcn.out] at hat ⊢
  have hn64 : (secB none).length = 64 := by simp [secB, noughts]
  rw [hn64]
  have HA1 : Hid (BytesAt w7 A1 noughts) := hat
  have HB7 := Lib.hid hb7
  clear hat hb7 hq hn64
  go_wp2_with fail
  refine (landRead_any _ gc (D1.crash [1]) 3 w7 (HL6.out.below HB7.out)).mono ?_
  rintro e w8 (⟨h, _⟩ | ⟨q, A2, c2, hq, _, rfl, hat, hb8⟩)
  · have h8 : (D1.crash [1]).safe.length = 8 := by
      show (laidN _ _ _ _ _).length = 8
      rw [laidN_length, ← HD1.out]
      rfl
    omega
  obtain rfl : q = 3 := by omega
  rw [hco.out] at hat ⊢
  have HA2 : Hid (BytesAt w8 A2 B) := hat
  have HB8 := Lib.hid hb8
  have hs2 : secB (some B) = B := rfl
  rw [hs2]
  clear hat hb8 hq hs2
  go_wp2_with fail
  refine (noneRead _).mono ?_
  rintro e w' ⟨rfl, rfl⟩
  go_wp2_with fail
  have hl64 := HL64.out
  obtain ⟨b1, o1, rfl, hlt1⟩ := HA1.out.form (by simp [noughts])
  obtain ⟨b2, o2, rfl, hlt2⟩ := HA2.out.form (by omega)
  have HA18 := Lib.hid (HA1.out.below HB8.out)
  have HLT2 := Lib.hid hlt2
  have HLT1 : Hid (b1 < w8.heap.size) := Nat.lt_of_lt_of_le hlt1 HB8.out.size
  have x0 : w8.cell? ⟨b1, o1, none⟩ = some (.int .u8 0) := by
    have := HA18.out.cell (j := 0) (by simp [noughts])
    rw [Nat.add_zero] at this
    rw [this]
    simp [noughts]
  have e0 : ∀ e : ExtK (keepBlocks [b1, b2]) w8.drew, e.val.cell? ⟨b1, o1, none⟩ = some (.int .u8 0) := fun e => (cell_of_block (e.property.2 b1 (by simp)) _).trans x0
  have e2 : ∀ (e : ExtK (keepBlocks [b1, b2]) w8.drew) dst, Try.prog.underlying dst = some .string → (convert 41 dst (.slice (some ⟨b2, o2, none⟩) B.length c2)).run Try.prog e.val = .ok (.string (bstr B)) e.val := fun e dst hd => (BytesAt.kept HA2.out e.property.1 (fun _ => e.property.2 b2 (by simp))).conv c2 dst hd
  have e2' := fun e => e2 e 9 Try.underlying9
  have hl1 : ((B.length : Int) == 64) = true := by rw [hl64]; rfl
  clear x0 hl64 hlt1 hlt2 e2
  refine wp_region_held_lit (keepBlocks [b1, b2]) [(0, true), (1, true), (2, true), (3, true), (4, true), (5, true), (6, true), (7, true), (8, true), (9, true), (10, true), (11, true), (12, false), (13, false), (14, true), (15, true), (16, true), (17, true), (18, false), (19, true), (20, true), (21, true), (22, true), (23, true), (24, true), (25, true), (26, true), (27, false), (28, true), (29, true), (30, true)] (by kernel_rfl) (by kernel_rfl) (fun _ _ d _ _ h => by cases d <;> exact h) ?_
  simp only [picked, List.map_cons, List.map_nil, List.getElem?_cons_succ, List.getElem?_cons_zero, Option.getD_some]
  repeat (refine wpH_quiet (by rfl) (fun K hK => ?_); go_big_quiet_op; refine hK _ ?_; clear hK K)
  clear e0 e2' hl1
  refine wpH_one (by rfl) (fun K hK => ?_)
  go_simp
  refine (GB.out w8.drew).mono ?_
  rintro e w9 ⟨gx, cx, rfl, hat9, hge9, hlt9, hb9⟩
  have HB9 : Hid (Below w8.heap.size w8 w9) := (Below.refl w8.heap.size w8).drew.trans hb9
  have HA9 := Lib.hid hat9
  clear hat9 hge9 hlt9 hb9
  refine hK _ _ (keep_two HB9.out.size (HB9.out.block b1 HLT1.out) (HB9.out.block b2 HLT2.out)) ?_
  clear hK K
  have hc9 := HA9.out.conv cx 9 Try.underlying9
  refine wpH_one (by rfl) (fun K hK => ?_)
  go_simp
  refine hK _ _ ((keepBlocks [b1, b2]).refl _) ?_
  clear hK K hc9
  repeat (refine wpH_quiet (by rfl) (fun K hK => ?_); go_big_quiet_op; refine hK _ ?_; clear hK K)
  refine wpH_one (by rfl) (fun K hK => ?_)
  go_simp
  refine (noneFlush w9).mono ?_
  rintro e w' ⟨rfl, rfl⟩
  refine hK _ _ ((keepBlocks [b1, b2]).refl _) ?_
  clear hK K
  repeat (refine wpH_quiet (by rfl) (fun K hK => ?_); go_big_quiet_op; refine hK _ ?_; clear hK K)
  refine wpH_one (by rfl) (fun K hK => ?_)
  go_simp
  refine (noneCrash none 0 0 w9).mono ?_
  rintro e w' ⟨rfl, rfl⟩
  refine hK _ _ ((keepBlocks [b1, b2]).refl _) ?_
  clear hK K
  repeat (refine wpH_quiet (by rfl) (fun K hK => ?_); go_big_quiet_op; refine hK _ ?_; clear hK K)
  refine wpH_nil ?_
  go_wp2
  go_ret
  have h3 := HB3.out.size
  have h4 := HB4.out.size
  have h6 := HB6.out.size
  have h7 := HB7.out.size
  have h8 := HB8.out.size
  exact ⟨rfl, HB3.out.trans ((HB4.out.mono h3).trans ((HB6.out.mono (by omega)).trans ((HB7.out.mono (by omega)).trans ((HB8.out.mono (by omega)).trans (HB9.out.mono (by omega))))))⟩
end Go.Proofs.Ytnjgjkfdblpddaa
