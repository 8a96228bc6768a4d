/- Nothing is made in, or moved to, a directory that somebody took away: RebaseParent answers true and changes nothing. Condition: the table of conflicts holds what the program's text lays. -/
import Derived.Test.YtjpjdkdbgjipnaaDoorU41
import Derived.Test.YtjpjdkdbgjipnaaDoorU31
namespace Go.Proofs.YtjpjdkdbgjipnaaDoor
open Go.RowKit Go.Deep
set_option maxHeartbeats 8000000 in
set_option maxRecDepth 100000 in
theorem yy300 (id parent : Int) (mv : Bool) (A : Option Addr) (gs : List Int) (c : Nat) (hid : -9223372036854775808 ≤ id ∧ id ≤ 9223372036854775807) (hp : -9223372036854775808 ≤ parent ∧ parent ≤ 9223372036854775807) (_ : gs.length ≤ maxLen) (hg : ∀ x ∈ gs, -9223372036854775808 ≤ x ∧ x ≤ 9223372036854775807) (w : World) (hA : IntsAt w A gs) (hC : ConfAt w) :
  Calls Tryd.prog 6 #[.int .i64 id, .int .i64 parent, .bool mv, .slice A gs.length c] w fun e w' => e = .returned (.bool true) ∧ Below w.heap.size w w' := by
 obtain ⟨g, hgg⟩ : ∃ g, g = w.heap.size := ⟨_, rfl⟩
 rw [← hgg]
 have HA := xh (fun (X : World) (h : Below g w X) => hA.below (hgg ▸ h))
 have HCF := xh (fun (X : World) (h : Below g w X) => hC.below (hgg ▸ h))
 have GW := xh (fun (X : World) (h : Below g w X) => yy145 X (HCF.out X h))
 have HG := xh hg
 have HB : Hid (Below g w w) := xh (hgg ▸ Below.refl w.heap.size w)
 have HGG := xh hgg
 clear hA hC hg hgg
 by_cases c0 : id < 1
 ·clear hid hp
  go_enter Tryd.func6, Tryd.ntmps6
  go_wp2_with fail
  refine (GW.out _ HB.out).mono ?_
  rintro e x9 ⟨rfl, hb⟩
  replace HB := xh (HB.out.trans (hb.mono (Nat.le_of_eq HGG.out)))
  clear hb
  go_wp2
  go_ret
  exact ⟨rfl, HB.out⟩
 by_cases c1 : 100 < id
 ·clear hid hp
  go_enter Tryd.func6, Tryd.ntmps6
  go_wp2_with fail
  refine (GW.out _ HB.out).mono ?_
  rintro e x9 ⟨rfl, hb⟩
  replace HB := xh (HB.out.trans (hb.mono (Nat.le_of_eq HGG.out)))
  clear hb
  go_wp2
  go_ret
  exact ⟨rfl, HB.out⟩
 by_cases c2 : parent < 1
 ·clear hid hp
  go_enter Tryd.func6, Tryd.ntmps6
  go_wp2_with fail
  refine (GW.out _ HB.out).mono ?_
  rintro e x9 ⟨rfl, hb⟩
  replace HB := xh (HB.out.trans (hb.mono (Nat.le_of_eq HGG.out)))
  clear hb
  go_wp2
  go_ret
  exact ⟨rfl, HB.out⟩
 by_cases c3 : 100 < parent
 ·clear hid hp
  go_enter Tryd.func6, Tryd.ntmps6
  go_wp2_with fail
  refine (GW.out _ HB.out).mono ?_
  rintro e x9 ⟨rfl, hb⟩
  replace HB := xh (HB.out.trans (hb.mono (Nat.le_of_eq HGG.out)))
  clear hb
  go_wp2
  go_ret
  exact ⟨rfl, HB.out⟩
 by_cases c4 : 20 < gs.length
 ·have c4I : (20 : Int) < (gs.length : Int) := by omega
  go_enter Tryd.func6, Tryd.ntmps6
  go_wp2_with fail
  refine (GW.out _ HB.out).mono ?_
  rintro e x9 ⟨rfl, hb⟩
  replace HB := xh (HB.out.trans (hb.mono (Nat.le_of_eq HGG.out)))
  clear hb
  go_wp2
  go_ret
  exact ⟨rfl, HB.out⟩
 have c4I : ¬ (20 : Int) < (gs.length : Int) := by omega
 by_cases c5 : id = parent
 ·subst c5
  go_enter Tryd.func6, Tryd.ntmps6
  go_wp2_with fail
  refine (GW.out _ HB.out).mono ?_
  rintro e x9 ⟨rfl, hb⟩
  replace HB := xh (HB.out.trans (hb.mono (Nat.le_of_eq HGG.out)))
  clear hb
  go_wp2
  go_ret
  exact ⟨rfl, HB.out⟩
 have c5b : (id == parent) = false := by simp [c5]
 cases mv
 ·-- it is made
  go_enter Tryd.func6, Tryd.ntmps6
  go_upto_region 6 with fail
  rw [← HGG.out]
  have hb1 : Below g w (w.alloc (.cells #[.int .i64 1, .int .i64 id, .int .i64 parent, .string { data := #[110] }, .bool false, .slice none 0 0] 46)) := HB.out.alloc (by rw [HGG.out]; exact Nat.le_refl _) _
  have hrow : (w.alloc (.cells #[.int .i64 1, .int .i64 id, .int .i64 parent, .string { data := #[110] }, .bool false, .slice none 0 0] 46)).heap[g]? = some (.cells #[.int .i64 1, .int .i64 id, .int .i64 parent, .string { data := #[110] }, .bool false, .slice none 0 0] 46 (0, 0)) := by rw [HGG.out]; exact heap_alloc_new w _
  have hsz : (w.alloc (.cells #[.int .i64 1, .int .i64 id, .int .i64 parent, .string { data := #[110] }, .bool false, .slice none 0 0] 46)).heap.size = g + 1 := by rw [World.size_alloc, HGG.out]
  obtain ⟨W1, HW1⟩ : ∃ x, Hid ((w.alloc (.cells #[.int .i64 1, .int .i64 id, .int .i64 parent, .string { data := #[110] }, .bool false, .slice none 0 0] 46)) = x) := ⟨_, xh rfl⟩
  rw [HW1.out] at hb1 hrow hsz ⊢
  clear HW1
  have HBF := xh (fun (X : World) (h : Below W1.heap.size W1 X) => hb1.trans (h.mono (by omega : g ≤ W1.heap.size)))
  have HCELL : Hid (∀ X : World, Below W1.heap.size W1 X → X.cell? ⟨g, 0, none⟩ = some (.int .i64 1) ∧ X.cell? ⟨g, 1, none⟩ = some (.int .i64 id) ∧ X.cell? ⟨g, 2, none⟩ = some (.int .i64 parent) ∧ X.cell? ⟨g, 3, none⟩ = some (.string { data := #[110] }) ∧ X.cell? ⟨g, 4, none⟩ = some (.bool false) ∧ X.cell? ⟨g, 5, none⟩ = some (.slice none 0 0)) := xh (fun X h => by
   have hr := (h.block g (by omega)).trans hrow
   exact ⟨cell_of_row _ _ _ _ _ _ hr, cell_of_row _ _ _ _ _ _ hr, cell_of_row _ _ _ _ _ _ hr, cell_of_row _ _ _ _ _ _ hr, cell_of_row _ _ _ _ _ _ hr, cell_of_row _ _ _ _ _ _ hr⟩)
  have HD := xh (Below.refl W1.heap.size W1)
  have HS := xh (Nat.le_refl W1.heap.size)
  clear hb1 hrow hsz HB
  go_wp2_with fail
  go_loopw [10, 11, 12, 13, 14] (fun s10 s11 s12 s13 s14 wr => ∃ (k : Nat) (A1 : Option Addr) (cc : Nat) (l : List ActV) (h1 h2 : Bool), k ≤ gs.length ∧ s10 = .slice A1 l.length cc ∧ s11 = .bool h1 ∧ s12 = .bool h2 ∧ s13 = .int .i64 (k : Int) ∧ s14 = s14 ∧ Hid (rmP (gs.take k) = l) ∧ Hid (hitP (gs.take k) parent = h1) ∧ Hid (hitP (gs.take k) id = h2) ∧ Hid (OwnA wr W1.heap.size A1 cc l) ∧ Hid (Below W1.heap.size W1 wr)) (fun _ _ _ s13 _ _ => gs.length - (intOf s13).toNat)
  case atStart => exact ⟨0, none, 0, [], false, false, Nat.zero_le _, rfl, rfl, rfl, rfl, rfl, xh rfl, xh rfl, xh rfl, xh (OwnA.nil _ _), HD⟩
  case round =>
   clear HD
   obtain ⟨k, A1, cc, l, h1, h2, hk, rfl, rfl, rfl, rfl, _, HL, H1, H2, HO, HD⟩ := hrel
   by_cases hlt : k < gs.length
   ·have hltI : (k : Int) < (gs.length : Int) := by omega
    have hAw := HA.out _ (HBF.out _ HD.out)
    obtain ⟨b, off, rfl, _⟩ := hAw.form (by omega)
    have z0 := hAw.cell hlt
    have HTK : Hid (gs.take (k + 1) = gs.take k ++ [gs[k]]) := xh (List.take_succ_eq_append_getElem hlt)
    have hzf := HG.out gs[k] (List.getElem_mem hlt)
    generalize gs[k] = z at z0 HTK hzf
    have GR := xh (fun (X : World) => yy76 z 100 (by omega) (by omega) X)
    have hr := rnd_lt z (n := 100) (by omega)
    have HQ : Hid (rmQ z = 1 + (rnd z 100 : Nat)) := xh rfl
    generalize rnd z 100 = r at GR hr HQ
    have hll : l.length ≤ 20 := by
     have := congrArg List.length HL.out
     rw [yy203, List.length_take] at this
     omega
    clear hAw
    have hsz := HD.out.size
    go_wp2_with fail
    refine (GR.out _).mono ?_
    rintro e x2 ⟨rfl, rfl⟩
    clear z0 GR
    go_wp2_with (at_builtin
                 refine yy106 rfl (.tmp 61) (.tmp 64) rfl (B := W1.heap.size) (out := l) (m := [rmE (1 + (r : Int))]) (HO.out.alloc (.cells (yy1 (rmE (1 + (r : Int)))).toArray 46)) (by simp; omega) 1 (yy356 wr (rmE (1 + (r : Int))) _ rfl) (by simp; omega) rfl rfl ?_
                 intro A2 c2 w2 hown hbel
                 have HO2 := xh hown
                 have HD2 := xh ((HD.out.alloc HD.out.size (.cells (yy1 (rmE (1 + (r : Int)))).toArray 46)).trans hbel)
                 clear hown hbel)
    all_goals
     rename_i e1 e2
     refine ⟨⟨k + 1, A2, c2, l ++ [rmE (1 + (r : Int))], (h1 || (1 + (r : Int) == parent)), (h2 || (1 + (r : Int) == id)), by omega, by simp, by simp [e1], by simp [e2], by go_num, trivial, xh (by rw [HTK.out, yy666, HL.out, HQ.out]), xh (by rw [HTK.out, yy250, H1.out, HQ.out]; rfl), xh (by rw [HTK.out, yy250, H2.out, HQ.out]; rfl), HO2, HD2⟩, ?_⟩
     simp [intOf]
     omega
   ·obtain rfl : k = gs.length := by omega
    rw [List.take_length] at HL H1 H2
    have hll : l.length ≤ 20 := by
     have := congrArg List.length HL.out
     rw [yy203] at this
     omega
    have HLB : Hid (∀ a ∈ l, ActB a) := xh (fun a ha => by
     rw [← HL.out] at ha
     obtain ⟨z, rfl⟩ := yy515 ha
     exact rmE_b (by have := rmQ_in z; omega))
    have HLA : Hid (ActsAt wr A1 l) := xh ⟨HO.out.at_, fun a ha => by
     rw [← HL.out] at ha
     obtain ⟨z, rfl⟩ := yy515 ha
     exact .inl rfl⟩
    have GOF := xh (yy124 A1 cc l (by omega) HO.out.cap (fun a ha => (HLB.out a ha).1) wr HLA.out)
    clear HO HLA
    go_wp2_with fail
    refine (GOF.out).mono ?_
    rintro e x6 ⟨⟨v4, rfl, A4, c4, L, rfl, hat, hk4, hgd, hc4⟩, hb⟩
    replace HD := xh (HD.out.trans (hb.mono (Nat.le_trans HS.out HD.out.size)))
    obtain ⟨hL1, hL2⟩ := yy113 hk4 (fun a ha => (HLB.out a ha).1) hgd
    rw [← HL.out] at hk4
    have hLl : L.length ≤ 1048576 := by omega
    have HONE := xh (fun (X : World) (h : Below x6.heap.size x6 X) => hat.below h)
    have HID : Hid (1 ≤ id ∧ id ≤ 100) := xh (by omega)
    have HPD : Hid (1 ≤ parent ∧ parent ≤ 100) := xh (by omega)
    have HPB : Hid (ActB (parA id parent false)) := xh (by
     refine ⟨⟨⟨by show Fit64 1; unfold Fit64; omega, by show Fit64 id; unfold Fit64; have := HID.out; omega, by show Fit64 parent; unfold Fit64; have := HPD.out; omega, ⟨by simp [parA], by simp [parA, maxLen]⟩, fun y hy => (by cases hy), Nat.le_refl _, Nat.zero_le _⟩, yy118, by simp [parA]⟩, by simp [parA], by simp [parA, tlen]⟩)
    have GV := xh (fun (X : World) (h : Below W1.heap.size W1 X) (hx : Below x6.heap.size x6 X) (gx : Nat) (hgx : gx = X.heap.size) => (show Calls Tryd.prog 15 #[.slice (some ⟨gx, 0, none⟩) 1 1, .slice A4 L.length c4] (X.alloc (.cells #[.int .i64 1, .int .i64 id, .int .i64 parent, .string { data := #[110] }, .bool false, .slice none 0 0] 46)) _ from yy99 (some ⟨gx, 0, none⟩) 1 [parA id parent false] (by simp) (by simp) (fun a ha => by rw [List.mem_singleton.1 ha]; exact HPB.out) A4 c4 L hLl hc4 hL2 _ (yy51 X (parA id parent false) (.inl rfl) gx hgx) ((HONE.out X hx).below ((Below.refl _ _).alloc (Nat.le_refl _) _)) ((HCF.out X (HBF.out X h)).below ((Below.refl _ _).alloc (Nat.le_refl _) _))))
    have GY := xh (fun (X : World) (h : Below W1.heap.size W1 X) (hx : Below x6.heap.size x6 X) => (show Calls Tryd.prog 22 #[.agg #[.int .i64 1, .int .i64 id, .int .i64 parent, .string { data := #[110] }, .bool false, .slice none 0 0], .slice A4 L.length c4] X _ from yy501 A4 c4 L (parA id parent false) hLl hL2 ⟨by simp [parA], by simp [parA, maxLen]⟩ X (HONE.out X hx) (HCF.out X (HBF.out X h))))
    rw [hk4] at GV GY
    clear hat hk4 hgd hc4 hL1 hL2 hb GOF HONE HLB
    cases h1 <;> cases h2
    ·-- (False, False)
     have HRB : Hid (rRb [parA id parent false] (eff (rmP gs)) = ([parA id parent false], 0)) := xh (by rw [par_rb false gs HID.out HPD.out, H1.out, H2.out]; rfl)
     have HRW : Hid (rWhy (parA id parent false) (eff (rmP gs)) = 0) := xh (by rw [yy204, H1.out, H2.out]; rfl)
     rw [HRB.out] at GV
     rw [HRW.out] at GY
     obtain ⟨z0, z1, z2, z3, z4, z5⟩ := HCELL.out _ HD.out
     go_wp2_with fail
     refine (GV.out _ HD.out (Below.refl _ _) _ rfl).mono ?_
     rintro e x7 ⟨⟨A5, c5, o5, v5, V5, rfl, ho, hk5, hef⟩, hb⟩
     have hba := (Below.refl x6.heap.size x6).alloc (Nat.le_refl _) (.cells (yy1 (parA id parent false)).toArray 46)
     have hbb := hba.trans (hb.mono hba.size)
     replace HD := xh (HD.out.trans (hbb.mono (Nat.le_trans HS.out HD.out.size)))
     have HX7 := xh hbb
     obtain ⟨y5, rfl, _⟩ := yy100 hk5
     clear ho hk5 hef hb hba hbb z0 z1 z2 z3 z4 z5 GV HRB
     obtain ⟨z0, z1, z2, z3, z4, z5⟩ := HCELL.out _ HD.out
     go_wp2_with fail
     refine (GY.out _ HD.out HX7.out).mono ?_
     rintro e x8 ⟨rfl, hb⟩
     replace HD := xh (HD.out.trans (hb.mono (Nat.le_trans HS.out HD.out.size)))
     clear hb z0 z1 z2 z3 z4 z5 GY HRW HX7
     go_wp2_with fail
     refine (GW.out _ (HBF.out _ HD.out)).mono ?_
     rintro e x9 ⟨rfl, hb⟩
     replace HD := xh (HD.out.trans (hb.mono (Nat.le_trans HS.out HD.out.size)))
     clear hb
     go_wp2
     go_ret
     exact ⟨rfl, HBF.out _ HD.out⟩
    ·-- (False, True)
     have HRB : Hid (rRb [parA id parent false] (eff (rmP gs)) = ([parA id parent false], 0)) := xh (by rw [par_rb false gs HID.out HPD.out, H1.out, H2.out]; rfl)
     have HRW : Hid (rWhy (parA id parent false) (eff (rmP gs)) = 0) := xh (by rw [yy204, H1.out, H2.out]; rfl)
     rw [HRB.out] at GV
     rw [HRW.out] at GY
     obtain ⟨z0, z1, z2, z3, z4, z5⟩ := HCELL.out _ HD.out
     go_wp2_with fail
     refine (GV.out _ HD.out (Below.refl _ _) _ rfl).mono ?_
     rintro e x7 ⟨⟨A5, c5, o5, v5, V5, rfl, ho, hk5, hef⟩, hb⟩
     have hba := (Below.refl x6.heap.size x6).alloc (Nat.le_refl _) (.cells (yy1 (parA id parent false)).toArray 46)
     have hbb := hba.trans (hb.mono hba.size)
     replace HD := xh (HD.out.trans (hbb.mono (Nat.le_trans HS.out HD.out.size)))
     have HX7 := xh hbb
     obtain ⟨y5, rfl, _⟩ := yy100 hk5
     clear ho hk5 hef hb hba hbb z0 z1 z2 z3 z4 z5 GV HRB
     obtain ⟨z0, z1, z2, z3, z4, z5⟩ := HCELL.out _ HD.out
     go_wp2_with fail
     refine (GY.out _ HD.out HX7.out).mono ?_
     rintro e x8 ⟨rfl, hb⟩
     replace HD := xh (HD.out.trans (hb.mono (Nat.le_trans HS.out HD.out.size)))
     clear hb z0 z1 z2 z3 z4 z5 GY HRW HX7
     go_wp2_with fail
     refine (GW.out _ (HBF.out _ HD.out)).mono ?_
     rintro e x9 ⟨rfl, hb⟩
     replace HD := xh (HD.out.trans (hb.mono (Nat.le_trans HS.out HD.out.size)))
     clear hb
     go_wp2
     go_ret
     exact ⟨rfl, HBF.out _ HD.out⟩
    ·-- (True, False)
     have HRB : Hid (rRb [parA id parent false] (eff (rmP gs)) = ([], 12)) := xh (by rw [par_rb false gs HID.out HPD.out, H1.out, H2.out]; rfl)
     have HRW : Hid (rWhy (parA id parent false) (eff (rmP gs)) = 12) := xh (by rw [yy204, H1.out, H2.out]; rfl)
     rw [HRB.out] at GV
     rw [HRW.out] at GY
     obtain ⟨z0, z1, z2, z3, z4, z5⟩ := HCELL.out _ HD.out
     go_wp2_with fail
     refine (GV.out _ HD.out (Below.refl _ _) _ rfl).mono ?_
     rintro e x7 ⟨⟨A5, c5, o5, v5, V5, rfl, ho, hk5, hef⟩, hb⟩
     have hba := (Below.refl x6.heap.size x6).alloc (Nat.le_refl _) (.cells (yy1 (parA id parent false)).toArray 46)
     have hbb := hba.trans (hb.mono hba.size)
     replace HD := xh (HD.out.trans (hbb.mono (Nat.le_trans HS.out HD.out.size)))
     have HX7 := xh hbb
     obtain rfl := yy63 hk5
     clear ho hk5 hef hb hba hbb z0 z1 z2 z3 z4 z5 GV HRB
     obtain ⟨z0, z1, z2, z3, z4, z5⟩ := HCELL.out _ HD.out
     go_wp2_with fail
     refine (GY.out _ HD.out HX7.out).mono ?_
     rintro e x8 ⟨rfl, hb⟩
     replace HD := xh (HD.out.trans (hb.mono (Nat.le_trans HS.out HD.out.size)))
     clear hb z0 z1 z2 z3 z4 z5 GY HRW HX7
     go_wp2_with fail
     refine (GW.out _ (HBF.out _ HD.out)).mono ?_
     rintro e x9 ⟨rfl, hb⟩
     replace HD := xh (HD.out.trans (hb.mono (Nat.le_trans HS.out HD.out.size)))
     clear hb
     go_wp2
     go_ret
     exact ⟨rfl, HBF.out _ HD.out⟩
    ·-- (True, True)
     have HRB : Hid (rRb [parA id parent false] (eff (rmP gs)) = ([], 12)) := xh (by rw [par_rb false gs HID.out HPD.out, H1.out, H2.out]; rfl)
     have HRW : Hid (rWhy (parA id parent false) (eff (rmP gs)) = 12) := xh (by rw [yy204, H1.out, H2.out]; rfl)
     rw [HRB.out] at GV
     rw [HRW.out] at GY
     obtain ⟨z0, z1, z2, z3, z4, z5⟩ := HCELL.out _ HD.out
     go_wp2_with fail
     refine (GV.out _ HD.out (Below.refl _ _) _ rfl).mono ?_
     rintro e x7 ⟨⟨A5, c5, o5, v5, V5, rfl, ho, hk5, hef⟩, hb⟩
     have hba := (Below.refl x6.heap.size x6).alloc (Nat.le_refl _) (.cells (yy1 (parA id parent false)).toArray 46)
     have hbb := hba.trans (hb.mono hba.size)
     replace HD := xh (HD.out.trans (hbb.mono (Nat.le_trans HS.out HD.out.size)))
     have HX7 := xh hbb
     obtain rfl := yy63 hk5
     clear ho hk5 hef hb hba hbb z0 z1 z2 z3 z4 z5 GV HRB
     obtain ⟨z0, z1, z2, z3, z4, z5⟩ := HCELL.out _ HD.out
     go_wp2_with fail
     refine (GY.out _ HD.out HX7.out).mono ?_
     rintro e x8 ⟨rfl, hb⟩
     replace HD := xh (HD.out.trans (hb.mono (Nat.le_trans HS.out HD.out.size)))
     clear hb z0 z1 z2 z3 z4 z5 GY HRW HX7
     go_wp2_with fail
     refine (GW.out _ (HBF.out _ HD.out)).mono ?_
     rintro e x9 ⟨rfl, hb⟩
     replace HD := xh (HD.out.trans (hb.mono (Nat.le_trans HS.out HD.out.size)))
     clear hb
     go_wp2
     go_ret
     exact ⟨rfl, HBF.out _ HD.out⟩
 ·-- it is moved
  go_enter Tryd.func6, Tryd.ntmps6
  go_upto_region 6 with fail
  rw [← HGG.out]
  have hb1 : Below g w (w.alloc (.cells #[.int .i64 3, .int .i64 id, .int .i64 parent, .string { data := #[110] }, .bool false, .slice none 0 0] 46)) := HB.out.alloc (by rw [HGG.out]; exact Nat.le_refl _) _
  have hrow : (w.alloc (.cells #[.int .i64 3, .int .i64 id, .int .i64 parent, .string { data := #[110] }, .bool false, .slice none 0 0] 46)).heap[g]? = some (.cells #[.int .i64 3, .int .i64 id, .int .i64 parent, .string { data := #[110] }, .bool false, .slice none 0 0] 46 (0, 0)) := by rw [HGG.out]; exact heap_alloc_new w _
  have hsz : (w.alloc (.cells #[.int .i64 3, .int .i64 id, .int .i64 parent, .string { data := #[110] }, .bool false, .slice none 0 0] 46)).heap.size = g + 1 := by rw [World.size_alloc, HGG.out]
  obtain ⟨W1, HW1⟩ : ∃ x, Hid ((w.alloc (.cells #[.int .i64 3, .int .i64 id, .int .i64 parent, .string { data := #[110] }, .bool false, .slice none 0 0] 46)) = x) := ⟨_, xh rfl⟩
  rw [HW1.out] at hb1 hrow hsz ⊢
  clear HW1
  have HBF := xh (fun (X : World) (h : Below W1.heap.size W1 X) => hb1.trans (h.mono (by omega : g ≤ W1.heap.size)))
  have HCELL : Hid (∀ X : World, Below W1.heap.size W1 X → X.cell? ⟨g, 0, none⟩ = some (.int .i64 3) ∧ X.cell? ⟨g, 1, none⟩ = some (.int .i64 id) ∧ X.cell? ⟨g, 2, none⟩ = some (.int .i64 parent) ∧ X.cell? ⟨g, 3, none⟩ = some (.string { data := #[110] }) ∧ X.cell? ⟨g, 4, none⟩ = some (.bool false) ∧ X.cell? ⟨g, 5, none⟩ = some (.slice none 0 0)) := xh (fun X h => by
   have hr := (h.block g (by omega)).trans hrow
   exact ⟨cell_of_row _ _ _ _ _ _ hr, cell_of_row _ _ _ _ _ _ hr, cell_of_row _ _ _ _ _ _ hr, cell_of_row _ _ _ _ _ _ hr, cell_of_row _ _ _ _ _ _ hr, cell_of_row _ _ _ _ _ _ hr⟩)
  have HD := xh (Below.refl W1.heap.size W1)
  have HS := xh (Nat.le_refl W1.heap.size)
  clear hb1 hrow hsz HB
  go_wp2_with fail
  go_loopw [10, 11, 12, 13, 14] (fun s10 s11 s12 s13 s14 wr => ∃ (k : Nat) (A1 : Option Addr) (cc : Nat) (l : List ActV) (h1 h2 : Bool), k ≤ gs.length ∧ s10 = .slice A1 l.length cc ∧ s11 = .bool h1 ∧ s12 = .bool h2 ∧ s13 = .int .i64 (k : Int) ∧ s14 = s14 ∧ Hid (rmP (gs.take k) = l) ∧ Hid (hitP (gs.take k) parent = h1) ∧ Hid (hitP (gs.take k) id = h2) ∧ Hid (OwnA wr W1.heap.size A1 cc l) ∧ Hid (Below W1.heap.size W1 wr)) (fun _ _ _ s13 _ _ => gs.length - (intOf s13).toNat)
  case atStart => exact ⟨0, none, 0, [], false, false, Nat.zero_le _, rfl, rfl, rfl, rfl, rfl, xh rfl, xh rfl, xh rfl, xh (OwnA.nil _ _), HD⟩
  case round =>
   clear HD
   obtain ⟨k, A1, cc, l, h1, h2, hk, rfl, rfl, rfl, rfl, _, HL, H1, H2, HO, HD⟩ := hrel
   by_cases hlt : k < gs.length
   ·have hltI : (k : Int) < (gs.length : Int) := by omega
    have hAw := HA.out _ (HBF.out _ HD.out)
    obtain ⟨b, off, rfl, _⟩ := hAw.form (by omega)
    have z0 := hAw.cell hlt
    have HTK : Hid (gs.take (k + 1) = gs.take k ++ [gs[k]]) := xh (List.take_succ_eq_append_getElem hlt)
    have hzf := HG.out gs[k] (List.getElem_mem hlt)
    generalize gs[k] = z at z0 HTK hzf
    have GR := xh (fun (X : World) => yy76 z 100 (by omega) (by omega) X)
    have hr := rnd_lt z (n := 100) (by omega)
    have HQ : Hid (rmQ z = 1 + (rnd z 100 : Nat)) := xh rfl
    generalize rnd z 100 = r at GR hr HQ
    have hll : l.length ≤ 20 := by
     have := congrArg List.length HL.out
     rw [yy203, List.length_take] at this
     omega
    clear hAw
    have hsz := HD.out.size
    go_wp2_with fail
    refine (GR.out _).mono ?_
    rintro e x2 ⟨rfl, rfl⟩
    clear z0 GR
    go_wp2_with (at_builtin
                 refine yy106 rfl (.tmp 61) (.tmp 64) rfl (B := W1.heap.size) (out := l) (m := [rmE (1 + (r : Int))]) (HO.out.alloc (.cells (yy1 (rmE (1 + (r : Int)))).toArray 46)) (by simp; omega) 1 (yy356 wr (rmE (1 + (r : Int))) _ rfl) (by simp; omega) rfl rfl ?_
                 intro A2 c2 w2 hown hbel
                 have HO2 := xh hown
                 have HD2 := xh ((HD.out.alloc HD.out.size (.cells (yy1 (rmE (1 + (r : Int)))).toArray 46)).trans hbel)
                 clear hown hbel)
    all_goals
     rename_i e1 e2
     refine ⟨⟨k + 1, A2, c2, l ++ [rmE (1 + (r : Int))], (h1 || (1 + (r : Int) == parent)), (h2 || (1 + (r : Int) == id)), by omega, by simp, by simp [e1], by simp [e2], by go_num, trivial, xh (by rw [HTK.out, yy666, HL.out, HQ.out]), xh (by rw [HTK.out, yy250, H1.out, HQ.out]; rfl), xh (by rw [HTK.out, yy250, H2.out, HQ.out]; rfl), HO2, HD2⟩, ?_⟩
     simp [intOf]
     omega
   ·obtain rfl : k = gs.length := by omega
    rw [List.take_length] at HL H1 H2
    have hll : l.length ≤ 20 := by
     have := congrArg List.length HL.out
     rw [yy203] at this
     omega
    have HLB : Hid (∀ a ∈ l, ActB a) := xh (fun a ha => by
     rw [← HL.out] at ha
     obtain ⟨z, rfl⟩ := yy515 ha
     exact rmE_b (by have := rmQ_in z; omega))
    have HLA : Hid (ActsAt wr A1 l) := xh ⟨HO.out.at_, fun a ha => by
     rw [← HL.out] at ha
     obtain ⟨z, rfl⟩ := yy515 ha
     exact .inl rfl⟩
    have GOF := xh (yy124 A1 cc l (by omega) HO.out.cap (fun a ha => (HLB.out a ha).1) wr HLA.out)
    clear HO HLA
    go_wp2_with fail
    refine (GOF.out).mono ?_
    rintro e x6 ⟨⟨v4, rfl, A4, c4, L, rfl, hat, hk4, hgd, hc4⟩, hb⟩
    replace HD := xh (HD.out.trans (hb.mono (Nat.le_trans HS.out HD.out.size)))
    obtain ⟨hL1, hL2⟩ := yy113 hk4 (fun a ha => (HLB.out a ha).1) hgd
    rw [← HL.out] at hk4
    have hLl : L.length ≤ 1048576 := by omega
    have HONE := xh (fun (X : World) (h : Below x6.heap.size x6 X) => hat.below h)
    have HID : Hid (1 ≤ id ∧ id ≤ 100) := xh (by omega)
    have HPD : Hid (1 ≤ parent ∧ parent ≤ 100) := xh (by omega)
    have HPB : Hid (ActB (parA id parent true)) := xh (by
     refine ⟨⟨⟨by show Fit64 3; unfold Fit64; omega, by show Fit64 id; unfold Fit64; have := HID.out; omega, by show Fit64 parent; unfold Fit64; have := HPD.out; omega, ⟨by simp [parA], by simp [parA, maxLen]⟩, fun y hy => (by cases hy), Nat.le_refl _, Nat.zero_le _⟩, yy118, by simp [parA]⟩, by simp [parA], by simp [parA, tlen]⟩)
    have GV := xh (fun (X : World) (h : Below W1.heap.size W1 X) (hx : Below x6.heap.size x6 X) (gx : Nat) (hgx : gx = X.heap.size) => (show Calls Tryd.prog 15 #[.slice (some ⟨gx, 0, none⟩) 1 1, .slice A4 L.length c4] (X.alloc (.cells #[.int .i64 3, .int .i64 id, .int .i64 parent, .string { data := #[110] }, .bool false, .slice none 0 0] 46)) _ from yy99 (some ⟨gx, 0, none⟩) 1 [parA id parent true] (by simp) (by simp) (fun a ha => by rw [List.mem_singleton.1 ha]; exact HPB.out) A4 c4 L hLl hc4 hL2 _ (yy51 X (parA id parent true) (.inl rfl) gx hgx) ((HONE.out X hx).below ((Below.refl _ _).alloc (Nat.le_refl _) _)) ((HCF.out X (HBF.out X h)).below ((Below.refl _ _).alloc (Nat.le_refl _) _))))
    have GY := xh (fun (X : World) (h : Below W1.heap.size W1 X) (hx : Below x6.heap.size x6 X) => (show Calls Tryd.prog 22 #[.agg #[.int .i64 3, .int .i64 id, .int .i64 parent, .string { data := #[110] }, .bool false, .slice none 0 0], .slice A4 L.length c4] X _ from yy501 A4 c4 L (parA id parent true) hLl hL2 ⟨by simp [parA], by simp [parA, maxLen]⟩ X (HONE.out X hx) (HCF.out X (HBF.out X h))))
    rw [hk4] at GV GY
    clear hat hk4 hgd hc4 hL1 hL2 hb GOF HONE HLB
    cases h1 <;> cases h2
    ·-- (False, False)
     have HRB : Hid (rRb [parA id parent true] (eff (rmP gs)) = ([parA id parent true], 0)) := xh (by rw [par_rb true gs HID.out HPD.out, H1.out, H2.out]; rfl)
     have HRW : Hid (rWhy (parA id parent true) (eff (rmP gs)) = 0) := xh (by rw [yy204, H1.out, H2.out]; rfl)
     rw [HRB.out] at GV
     rw [HRW.out] at GY
     obtain ⟨z0, z1, z2, z3, z4, z5⟩ := HCELL.out _ HD.out
     go_wp2_with fail
     refine (GV.out _ HD.out (Below.refl _ _) _ rfl).mono ?_
     rintro e x7 ⟨⟨A5, c5, o5, v5, V5, rfl, ho, hk5, hef⟩, hb⟩
     have hba := (Below.refl x6.heap.size x6).alloc (Nat.le_refl _) (.cells (yy1 (parA id parent true)).toArray 46)
     have hbb := hba.trans (hb.mono hba.size)
     replace HD := xh (HD.out.trans (hbb.mono (Nat.le_trans HS.out HD.out.size)))
     have HX7 := xh hbb
     obtain ⟨y5, rfl, _⟩ := yy100 hk5
     clear ho hk5 hef hb hba hbb z0 z1 z2 z3 z4 z5 GV HRB
     obtain ⟨z0, z1, z2, z3, z4, z5⟩ := HCELL.out _ HD.out
     go_wp2_with fail
     refine (GY.out _ HD.out HX7.out).mono ?_
     rintro e x8 ⟨rfl, hb⟩
     replace HD := xh (HD.out.trans (hb.mono (Nat.le_trans HS.out HD.out.size)))
     clear hb z0 z1 z2 z3 z4 z5 GY HRW HX7
     go_wp2_with fail
     refine (GW.out _ (HBF.out _ HD.out)).mono ?_
     rintro e x9 ⟨rfl, hb⟩
     replace HD := xh (HD.out.trans (hb.mono (Nat.le_trans HS.out HD.out.size)))
     clear hb
     go_wp2
     go_ret
     exact ⟨rfl, HBF.out _ HD.out⟩
    ·-- (False, True)
     have HRB : Hid (rRb [parA id parent true] (eff (rmP gs)) = ([], 12)) := xh (by rw [par_rb true gs HID.out HPD.out, H1.out, H2.out]; rfl)
     have HRW : Hid (rWhy (parA id parent true) (eff (rmP gs)) = 12) := xh (by rw [yy204, H1.out, H2.out]; rfl)
     rw [HRB.out] at GV
     rw [HRW.out] at GY
     obtain ⟨z0, z1, z2, z3, z4, z5⟩ := HCELL.out _ HD.out
     go_wp2_with fail
     refine (GV.out _ HD.out (Below.refl _ _) _ rfl).mono ?_
     rintro e x7 ⟨⟨A5, c5, o5, v5, V5, rfl, ho, hk5, hef⟩, hb⟩
     have hba := (Below.refl x6.heap.size x6).alloc (Nat.le_refl _) (.cells (yy1 (parA id parent true)).toArray 46)
     have hbb := hba.trans (hb.mono hba.size)
     replace HD := xh (HD.out.trans (hbb.mono (Nat.le_trans HS.out HD.out.size)))
     have HX7 := xh hbb
     obtain rfl := yy63 hk5
     clear ho hk5 hef hb hba hbb z0 z1 z2 z3 z4 z5 GV HRB
     obtain ⟨z0, z1, z2, z3, z4, z5⟩ := HCELL.out _ HD.out
     go_wp2_with fail
     refine (GY.out _ HD.out HX7.out).mono ?_
     rintro e x8 ⟨rfl, hb⟩
     replace HD := xh (HD.out.trans (hb.mono (Nat.le_trans HS.out HD.out.size)))
     clear hb z0 z1 z2 z3 z4 z5 GY HRW HX7
     go_wp2_with fail
     refine (GW.out _ (HBF.out _ HD.out)).mono ?_
     rintro e x9 ⟨rfl, hb⟩
     replace HD := xh (HD.out.trans (hb.mono (Nat.le_trans HS.out HD.out.size)))
     clear hb
     go_wp2
     go_ret
     exact ⟨rfl, HBF.out _ HD.out⟩
    ·-- (True, False)
     have HRB : Hid (rRb [parA id parent true] (eff (rmP gs)) = ([], 12)) := xh (by rw [par_rb true gs HID.out HPD.out, H1.out, H2.out]; rfl)
     have HRW : Hid (rWhy (parA id parent true) (eff (rmP gs)) = 12) := xh (by rw [yy204, H1.out, H2.out]; rfl)
     rw [HRB.out] at GV
     rw [HRW.out] at GY
     obtain ⟨z0, z1, z2, z3, z4, z5⟩ := HCELL.out _ HD.out
     go_wp2_with fail
     refine (GV.out _ HD.out (Below.refl _ _) _ rfl).mono ?_
     rintro e x7 ⟨⟨A5, c5, o5, v5, V5, rfl, ho, hk5, hef⟩, hb⟩
     have hba := (Below.refl x6.heap.size x6).alloc (Nat.le_refl _) (.cells (yy1 (parA id parent true)).toArray 46)
     have hbb := hba.trans (hb.mono hba.size)
     replace HD := xh (HD.out.trans (hbb.mono (Nat.le_trans HS.out HD.out.size)))
     have HX7 := xh hbb
     obtain rfl := yy63 hk5
     clear ho hk5 hef hb hba hbb z0 z1 z2 z3 z4 z5 GV HRB
     obtain ⟨z0, z1, z2, z3, z4, z5⟩ := HCELL.out _ HD.out
     go_wp2_with fail
     refine (GY.out _ HD.out HX7.out).mono ?_
     rintro e x8 ⟨rfl, hb⟩
     replace HD := xh (HD.out.trans (hb.mono (Nat.le_trans HS.out HD.out.size)))
     clear hb z0 z1 z2 z3 z4 z5 GY HRW HX7
     go_wp2_with fail
     refine (GW.out _ (HBF.out _ HD.out)).mono ?_
     rintro e x9 ⟨rfl, hb⟩
     replace HD := xh (HD.out.trans (hb.mono (Nat.le_trans HS.out HD.out.size)))
     clear hb
     go_wp2
     go_ret
     exact ⟨rfl, HBF.out _ HD.out⟩
    ·-- (True, True)
     have HRB : Hid (rRb [parA id parent true] (eff (rmP gs)) = ([], 12)) := xh (by rw [par_rb true gs HID.out HPD.out, H1.out, H2.out]; rfl)
     have HRW : Hid (rWhy (parA id parent true) (eff (rmP gs)) = 12) := xh (by rw [yy204, H1.out, H2.out]; rfl)
     rw [HRB.out] at GV
     rw [HRW.out] at GY
     obtain ⟨z0, z1, z2, z3, z4, z5⟩ := HCELL.out _ HD.out
     go_wp2_with fail
     refine (GV.out _ HD.out (Below.refl _ _) _ rfl).mono ?_
     rintro e x7 ⟨⟨A5, c5, o5, v5, V5, rfl, ho, hk5, hef⟩, hb⟩
     have hba := (Below.refl x6.heap.size x6).alloc (Nat.le_refl _) (.cells (yy1 (parA id parent true)).toArray 46)
     have hbb := hba.trans (hb.mono hba.size)
     replace HD := xh (HD.out.trans (hbb.mono (Nat.le_trans HS.out HD.out.size)))
     have HX7 := xh hbb
     obtain rfl := yy63 hk5
     clear ho hk5 hef hb hba hbb z0 z1 z2 z3 z4 z5 GV HRB
     obtain ⟨z0, z1, z2, z3, z4, z5⟩ := HCELL.out _ HD.out
     go_wp2_with fail
     refine (GY.out _ HD.out HX7.out).mono ?_
     rintro e x8 ⟨rfl, hb⟩
     replace HD := xh (HD.out.trans (hb.mono (Nat.le_trans HS.out HD.out.size)))
     clear hb z0 z1 z2 z3 z4 z5 GY HRW HX7
     go_wp2_with fail
     refine (GW.out _ (HBF.out _ HD.out)).mono ?_
     rintro e x9 ⟨rfl, hb⟩
     replace HD := xh (HD.out.trans (hb.mono (Nat.le_trans HS.out HD.out.size)))
     clear hb
     go_wp2
     go_ret
     exact ⟨rfl, HBF.out _ HD.out⟩
end Go.Proofs.YtjpjdkdbgjipnaaDoor
