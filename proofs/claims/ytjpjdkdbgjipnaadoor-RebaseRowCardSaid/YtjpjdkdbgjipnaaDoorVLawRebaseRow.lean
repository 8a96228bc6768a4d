/- Behind a row of commits a transaction is what it is behind them one by one, and an edit goes through all of them: RebaseRow answers true and changes nothing. Condition: the table of conflicts holds what the program's text lays. -/
import Derived.Test.YtjpjdkdbgjipnaaDoorV38
import Derived.Test.YtjpjdkdbgjipnaaDoorV39
import Derived.Test.YtjpjdkdbgjipnaaDoorV42
import Derived.Test.YtjpjdkdbgjipnaaDoorV43
import Derived.Test.YtjpjdkdbgjipnaaDoorV44
import Derived.Test.YtjpjdkdbgjipnaaDoorV45
import Derived.Test.YtjpjdkdbgjipnaaDoorV46
namespace Go.Proofs.YtjpjdkdbgjipnaaDoor
open Go.RowKit Go.Deep
theorem file_V {t : List Nat} (h : ∀ x ∈ t, x < 123 ∧ 97 ≤ x) : V t t := by
 have e : E t = t := by
  induction t with
  | nil => exact E_nil
  | cons x t ih =>
   have hx := h x (by simp)
   have := V_one x (by omega)
   rw [show x :: t = [x] ++ t from rfl, yy86, this.bytes, ih fun y hy => h y (by simp [hy])]
 have hm : ∀ v ∈ t, May v := fun v hv => (V_one v (by have := h v hv; omega)).may v (by simp)
 have := V.mk hm
 rw [e] at this
 exact this
theorem yy640 {A : Option Addr} {c : Nat} {l : List CompV} (hg : ∀ y ∈ l, y.Good) (hc : l.length ≤ c) (hm : c ≤ maxLen) (ht : tlen l ≤ 4000) : ActOk (edE 1 A c l) :=
 ⟨⟨by show Fit64 4; unfold Fit64; omega, by show Fit64 1; unfold Fit64; omega, by show Fit64 0; unfold Fit64; omega, ⟨by simp [edE], by simp [edE]⟩, hg, hc, hm⟩, by simp [edE], fun y hy => ⟨hg y hy, by have h : y.text.length ≤ tlen l := yy234 hy; omega⟩, ht⟩
theorem yy543 {l : List ActV} (hl : l.length = 1) : ∀ cs : List (List ActV), (yy24 l cs).1.length ≤ 1048576 := by
 have h : ∀ (cs : List (List ActV)) (l : List ActV), l.length ≤ 1048576 → (yy24 l cs).1.length ≤ 1048576 := by
  intro cs
  induction cs with
  | nil => intro l h; rw [yy52]; exact h
  | cons c cs ih =>
   intro l h
   by_cases g : (rRb l (eff c)).2 = 0
   ·rw [yy49 g]
    exact ih _ (Nat.le_trans (yy637 g) (by omega))
   ·rw [yy48 g]
    exact Nat.zero_le _
 exact fun cs => h cs l (by omega)
theorem yy84 (s : List Nat) : (yy29 s).length = 1 := rfl
def ComO (w0 w : World) (B : Nat) (y : CommitV) : Prop := ComB y ∧ w.ownsRow B 46 6 (.slice y.actsA y.acts.length y.actsC) y.acts.length (y.acts.flatMap yy0) ∧ ∀ a ∈ y.acts, yy6 w0 a.opsA a.ops
theorem yy764 {w0 w : World} {B c : Nat} {A : Option Addr} {L : List CommitV} (h : OwnC w B A c L) (hy : ∀ y ∈ L, ComO w0 w B y) (hb : Below w0.heap.size w0 w) : yy63 w A L :=
 ⟨h.at_, fun y q => ⟨yy4.of_own (hy y q).2.1, fun a ha => ((hy y q).2.2 a ha).below hb⟩⟩
theorem yy765 {w : World} {B : Nat} {x : EditR} (h : B ≤ w.heap.size) : (w.alloc (.cells #[.int .i64 4, .int .i64 1, .int .i64 0, .string { data := #[] }, .bool false, .slice x.1 x.2.2.length x.2.1] 46)).ownsRow B 46 6 (.slice (some ⟨w.heap.size, 0, none⟩) 1 1) 1 ([edE 1 x.1 x.2.1 x.2.2].flatMap yy0) :=
 World.ownsRow_lit w _ 1 h (by simp [maxLen]) rfl
set_option maxHeartbeats 16000000 in
set_option maxRecDepth 100000 in
theorem yy307 (n : Int) (C : Option Addr) (l : List EditR) (cc : Nat) (M : Option Addr) (mine : List CompV) (cm : Nat) (hn : -9223372036854775808 ≤ n ∧ n ≤ 9223372036854775807) (_hl : l.length ≤ maxLen) (hfc : FineC l) (hlm : mine.length ≤ maxLen) (hgm : ∀ y ∈ mine, y.Good) (w : World) (hL : RowsC w C l ∧ l.length ≤ cc) (hM : yy6 w M mine ∧ mine.length ≤ cm) (hcm : cm ≤ maxLen) (hC : ConfAt w) :
  Calls Tryd.prog 7 #[.int .i64 n, .slice C l.length cc, .slice M mine.length cm] w fun e w' => e = .returned (.bool true) ∧ Below w.heap.size w w' := by
 obtain ⟨g, hgg⟩ : ∃ g, g = w.heap.size := ⟨_, rfl⟩
 rw [← hgg]
 have HGG := xh hgg
 have HRW := xh (fun (X : World) (h : Below g w X) => hL.1.below (hgg ▸ h))
 have HMW := xh (fun (X : World) (h : Below g w X) => yy6.below hM.1 (hgg ▸ h))
 have HM0 := xh hM.1
 have HCF := xh (fun (X : World) (h : Below g w X) => hC.below (hgg ▸ h))
 have GW := xh (fun (X : World) (h : Below g w X) => yy538 X (HCF.out X h))
 have G1 := xh (fun (X : World) (h : Below g w X) => yy211 600 cm hlm hgm X ⟨HMW.out X h, hM.2⟩)
 have HLM := xh hM.2
 have HCM := xh hcm
 have HFC := xh hfc
 have HRL : Hid (RowsC w C l) := xh hL.1
 clear hL hM hC hcm hfc
 obtain ⟨T1, HT1⟩ : ∃ x, Hid (yy35 600 mine = x) := ⟨_, xh rfl⟩
 rw [HT1.out] at G1
 have HB : Hid (Below g w w) := xh (hgg ▸ Below.refl w.heap.size w)
 clear hgg
 by_cases c0 : n < 0
 ·clear hgm hlm
  go_enter Tryd.func7, Tryd.ntmps7
  go_wp2_with fail
  refine (GW.out _ HB.out).mono ?_
  rintro e x9 ⟨rfl, hb⟩
  replace HB := xh (HB.out.trans (hb.mono (by rw [HGG.out]; exact HB.out.size)))
  clear hb
  go_wp2
  go_ret
  exact ⟨rfl, HB.out⟩
 obtain ⟨m, rfl⟩ : ∃ m : Nat, n = (m : Int) := ⟨n.toNat, by omega⟩
 by_cases c1 : 150 < m
 ·clear hgm hlm
  have c1I : (150 : Int) < (m : Int) := by omega
  go_enter Tryd.func7, Tryd.ntmps7
  go_wp2_with fail
  refine (GW.out _ HB.out).mono ?_
  rintro e x9 ⟨rfl, hb⟩
  replace HB := xh (HB.out.trans (hb.mono (by rw [HGG.out]; exact HB.out.size)))
  clear hb
  go_wp2
  go_ret
  exact ⟨rfl, HB.out⟩
 have c1I : ¬ (150 : Int) < (m : Int) := by omega
 by_cases c2 : 6 < l.length
 ·clear hgm hlm
  have c2I : (6 : Int) < (l.length : Int) := by omega
  go_enter Tryd.func7, Tryd.ntmps7
  go_wp2_with fail
  refine (GW.out _ HB.out).mono ?_
  rintro e x9 ⟨rfl, hb⟩
  replace HB := xh (HB.out.trans (hb.mono (by rw [HGG.out]; exact HB.out.size)))
  clear hb
  go_wp2
  go_ret
  exact ⟨rfl, HB.out⟩
 have c2I : ¬ (6 : Int) < (l.length : Int) := by omega
 by_cases c3 : 600 < T1
 ·clear hgm hlm
  have c3I : (600 : Int) < (T1 : Int) := by omega
  go_enter Tryd.func7, Tryd.ntmps7
  go_wp2_with fail
  refine (G1.out _ HB.out).mono ?_
  rintro e x1 ⟨rfl, hb⟩
  replace HB := xh (HB.out.trans (hb.mono (by rw [HGG.out]; exact HB.out.size)))
  clear hb
  go_wp2_with fail
  refine (GW.out _ HB.out).mono ?_
  rintro e x9 ⟨rfl, hb⟩
  replace HB := xh (HB.out.trans (hb.mono (by rw [HGG.out]; exact HB.out.size)))
  clear hb
  go_wp2
  go_ret
  exact ⟨rfl, HB.out⟩
 have hm6 := yy222 600 (by omega) mine (by rw [HT1.out]; omega)
 have HEM := xh (yy623 hgm hm6 (by omega))
 have HTM : Hid (tlen mine ≤ 4000) := xh (by omega)
 have c3I : ¬ (600 : Int) < (T1 : Int) := by omega
 clear hgm hlm hm6
 have GB := xh (fun (X : World) => yy542 m (by omega) 3 X)
 have hsv : V (blks m 3) (blks m 3) := file_V (yy762 m 3)
 have hsl := yy161 m 3
 generalize blks m 3 = s at GB hsv hsl
 have HTS := xh (yy606 ⟨_, hsv⟩ (by omega) (by rw [cps_of hsv]; omega))
 have HSV := xh hsv
 clear hsv hsl
 have HMB : Hid (ActB (edE 1 M cm mine)) := xh (edE_b (by omega) M HEM.out HTM.out HLM.out HCM.out)
 have HMO : Hid (ActOk (edE 1 M cm mine)) := xh (yy640 HEM.out.good HLM.out HCM.out HTM.out)
 go_enter Tryd.func7, Tryd.ntmps7
 go_wp2_with fail
 refine (G1.out _ HB.out).mono ?_
 rintro e x1 ⟨rfl, hb⟩
 replace HB := xh (HB.out.trans (hb.mono (by rw [HGG.out]; exact HB.out.size)))
 clear hb
 clear G1
 go_wp2_with fail
 refine (GB.out _).mono ?_
 rintro e x2 ⟨rfl, hb⟩
 replace HB := xh (HB.out.trans (hb.mono (by rw [HGG.out]; exact HB.out.size)))
 clear hb
 clear GB
 obtain ⟨gt, HGT⟩ : ∃ q, Hid (q = x2.heap.size) := ⟨_, xh rfl⟩
 have hb1 := (Below.refl x2.heap.size x2).alloc (Nat.le_refl _) (.cells #[.int .i64 1, .int .i64 0, .string { data := #[102] }, .bool false, .string (bstr s)] 44)
 have ho1 : OwnN (x2.alloc (.cells #[.int .i64 1, .int .i64 0, .string { data := #[102] }, .bool false, .string (bstr s)] 44)) g (some ⟨gt, 0, none⟩) 1 (yy29 s) := by
  rw [HGT.out]
  exact World.ownsRow_lit x2 _ 1 (by rw [HGG.out]; exact HB.out.size) (by simp [maxLen]) rfl
 have HB1 := xh (HB.out.trans (hb1.mono (by rw [HGG.out]; exact HB.out.size)))
 have hb2 := (Below.refl (x2.alloc (.cells #[.int .i64 1, .int .i64 0, .string { data := #[102] }, .bool false, .string (bstr s)] 44)).heap.size (x2.alloc (.cells #[.int .i64 1, .int .i64 0, .string { data := #[102] }, .bool false, .string (bstr s)] 44))).alloc (Nat.le_refl _) (.cells #[.int .i64 4, .int .i64 1, .int .i64 0, .string { data := #[] }, .bool false, .slice M mine.length cm] 46)
 have h2 : ActsAt ((x2.alloc (.cells #[.int .i64 1, .int .i64 0, .string { data := #[102] }, .bool false, .string (bstr s)] 44)).alloc (.cells #[.int .i64 4, .int .i64 1, .int .i64 0, .string { data := #[] }, .bool false, .slice M mine.length cm] 46)) (some ⟨gt + 1, 0, none⟩) [edE 1 M cm mine] := yy147 (x2.alloc (.cells #[.int .i64 1, .int .i64 0, .string { data := #[102] }, .bool false, .string (bstr s)] 44)) (edE 1 M cm mine) (HMW.out _ HB1.out) (gt + 1) (by rw [World.size_alloc, HGT.out])
 have HB2 := xh (HB1.out.trans (hb2.mono (by rw [HGG.out]; exact HB1.out.size)))
 have ho2 := ho1.below hb2
 obtain ⟨W2, HW2⟩ : ∃ q, Hid (((x2.alloc (.cells #[.int .i64 1, .int .i64 0, .string { data := #[102] }, .bool false, .string (bstr s)] 44)).alloc (.cells #[.int .i64 4, .int .i64 1, .int .i64 0, .string { data := #[] }, .bool false, .slice M mine.length cm] 46)) = q) := ⟨_, xh rfl⟩
 rw [HW2.out] at h2 ho2 HB2
 have HO := xh ho2
 have HA2 := xh h2
 clear hb1 ho1 hb2 h2 ho2 HB HB1
 have HB := HB2
 clear HB2
 have GD1 := xh (yy107 HTS.out (some ⟨gt, 0, none⟩) 1 (some ⟨gt + 1, 0, none⟩) 1 [edE 1 M cm mine] (by simp [maxLen]) (fun y hy => by rw [List.mem_singleton.1 hy]; exact HMO.out) (fun y hy => by rw [List.mem_singleton.1 hy]; rfl) W2 HO.out.nodes HA2.out)
 simp only [yy84, List.length_cons, List.length_nil, Nat.zero_add] at GD1
 go_wp2_with fail
 rw [← HGT.out, HW2.out]
 by_cases em : dErr s mine = 0
 rotate_left
 ·have HNA := xh (yy400 (A := M) (c := cm) em)
  clear em
  obtain ⟨⟨X, px, ux⟩, HVX⟩ : ∃ r, Hid (doAllV (yy29 s) [edE 1 M cm mine] = r) := ⟨_, xh rfl⟩
  rw [HVX.out] at GD1 HNA
  clear HVX
  simp only at GD1 HNA
  have hun : (ux != 0) = true := by simpa using HNA.out
  refine (GD1.out).mono ?_
  rintro e x3 ⟨⟨AX, cX, rfl, hx, hon⟩, hb⟩
  replace HB := xh (HB.out.trans (hb.mono (by rw [HGG.out]; exact HB.out.size)))
  replace HO := xh (HO.out.below hb)
  clear hb hx hon GD1 HA2
  go_wp2_with fail
  refine (GW.out _ HB.out).mono ?_
  rintro e x9 ⟨rfl, hb⟩
  replace HB := xh (HB.out.trans (hb.mono (by rw [HGG.out]; exact HB.out.size)))
  clear hb
  go_wp2
  go_ret
  exact ⟨rfl, HB.out⟩
 obtain ⟨vs, hda⟩ := did_of em
 have HDA := xh hda
 rw [yy106 em] at GD1
 simp only [yy84] at GD1
 have HCK : Hid (rCheck mine = 0) := xh (yy116 em).1
 clear em hda
 refine (GD1.out).mono ?_
 rintro e x3 ⟨⟨AX, cX, rfl, hx, hon⟩, hb⟩
 replace HB := xh (HB.out.trans (hb.mono (by rw [HGG.out]; exact HB.out.size)))
 replace HO := xh (HO.out.below hb)
 clear hb hx hon GD1 HA2
 go_wp2_with fail
 go_loopw [7, 11, 12, 13, 14, 15, 16] (fun s7 s11 s12 s13 s14 s15 s16 wr => ∃ (k : Nat) (AT : Option Addr) (cT : Nat) (u : List Nat) (A1 : Option Addr) (c1 : Nat) (L : List CommitV) (r : List EditR), k ≤ l.length ∧ s7 = .slice AT 1 cT ∧ s11 = .slice A1 L.length c1 ∧ s12 = .int .i64 (k : Int) ∧ s13 = s13 ∧ s14 = s14 ∧ s15 = s15 ∧ s16 = s16 ∧ Hid (OwnN wr g AT cT (yy29 u)) ∧ Hid (TreeM (yy29 u)) ∧ Hid (L.map (·.acts) = r.map comA) ∧ Hid (Runs s r u) ∧ Hid (∀ y ∈ L, ComO w wr g y) ∧ Hid (L.length ≤ k) ∧ Hid (OwnC wr g A1 c1 L) ∧ Hid (Below g w wr)) (fun _ _ s12 _ _ _ _ _ => l.length - (intOf s12).toNat)
 case atStart => exact ⟨0, some ⟨gt, 0, none⟩, 1, s, none, 0, [], [], Nat.zero_le _, rfl, rfl, rfl, rfl, rfl, rfl, rfl, HO, HTS, xh rfl, xh rfl, xh (fun y hy => by cases hy), xh (Nat.le_refl _), xh (OwnC.nil _ _), HB⟩
 case round =>
  clear HO HB
  obtain ⟨k, AT, cT, u, A1, c1, L, r, hk, rfl, rfl, rfl, _, _, _, _, HO, HTU, HLR, HRN, HCO, HLL, HOC, HB⟩ := hrel
  by_cases hlt : k < l.length
  ·have hkI : (k : Int) < (l.length : Int) := by omega
   obtain ⟨b, off, rfl, _⟩ := HRL.out.form (by omega)
   have HXC := xh (fun (X : World) (h : Below g w X) => ((HRW.out X h).cell hlt).1)
   have HXO := xh (HRL.out.cell hlt).2
   have HXF := xh (HFC.out _ (List.getElem_mem hlt))
   generalize l[k] = x at HXC HXO HXF
   have HGB : Hid (g ≤ wr.heap.size) := xh (by rw [HGG.out]; exact HB.out.size)
   have z0 := HXC.out _ HB.out
   have hb5 := (Below.refl wr.heap.size wr).alloc (Nat.le_refl _) (.cells #[.int .i64 4, .int .i64 1, .int .i64 0, .string { data := #[] }, .bool false, .slice x.1 x.2.2.length x.2.1] 46)
   have HB5 := xh (HB.out.trans (hb5.mono HGB.out))
   have HR5 := xh (yy765 (x := x) HGB.out)
   have HA5 : Hid (ActsAt (wr.alloc (.cells #[.int .i64 4, .int .i64 1, .int .i64 0, .string { data := #[] }, .bool false, .slice x.1 x.2.2.length x.2.1] 46)) (some ⟨wr.heap.size, 0, none⟩) [edE 1 x.1 x.2.1 x.2.2]) := xh (yy147 wr (edE 1 x.1 x.2.1 x.2.2) (yy6.below HXO.out.1 (HGG.out ▸ HB.out)) _ rfl)
   have HO5 := xh (HO.out.below hb5)
   have HCO5 : Hid (∀ y ∈ L, ComO w (wr.alloc (.cells #[.int .i64 4, .int .i64 1, .int .i64 0, .string { data := #[] }, .bool false, .slice x.1 x.2.2.length x.2.1] 46)) g y) := xh (fun y hy => ⟨(HCO.out y hy).1, own_below (HCO.out y hy).2.1 hb5, (HCO.out y hy).2.2⟩)
   have HOC5 := xh (HOC.out.below hb5)
   go_upto_region 12 with fail
   obtain ⟨g5, HG5⟩ : ∃ q, Hid (q = wr.heap.size) := ⟨_, xh rfl⟩
   obtain ⟨W5, HW5⟩ : ∃ q, Hid (wr.alloc (.cells #[.int .i64 4, .int .i64 1, .int .i64 0, .string { data := #[] }, .bool false, .slice x.1 x.2.2.length x.2.1] 46) = q) := ⟨_, xh rfl⟩
   rw [← HG5.out] at HR5 HA5 ⊢
   rw [HW5.out] at HB5 HR5 HA5 HO5 HCO5 HOC5 ⊢
   clear hb5 z0 HW5 HO HCO HOC HB
   have GX := xh (fun (X : World) (h : Below g w X) => yy211 600 x.2.1 (Nat.le_trans HXF.out.2.1 HXF.out.2.2) HXF.out.1 X (⟨yy6.below HXO.out.1 (HGG.out ▸ h), HXO.out.2⟩ : CompsC X x.1 x.2.1 x.2.2))
   obtain ⟨TX, HTX⟩ : ∃ q, Hid (yy35 600 x.2.2 = q) := ⟨_, xh rfl⟩
   rw [HTX.out] at GX
   have z0 := HXC.out _ HB5.out
   have HB := HB5
   clear HB5
   by_cases cx : 600 < TX
   ·have cxI : (600 : Int) < (TX : Int) := by omega
    go_wp2_with fail
    refine (GX.out _ HB.out).mono ?_
    rintro e x6 ⟨rfl, hb⟩
    replace HB := xh (HB.out.trans (hb.mono (by rw [HGG.out]; exact HB.out.size)))
    clear hb
    go_wp2_with fail
    refine (GW.out _ HB.out).mono ?_
    rintro e x9 ⟨rfl, hb⟩
    replace HB := xh (HB.out.trans (hb.mono (by rw [HGG.out]; exact HB.out.size)))
    clear hb
    go_wp2
    go_ret
    exact ⟨rfl, HB.out⟩
   have cxI : ¬ (600 : Int) < (TX : Int) := by omega
   have hx6 := yy222 600 (by omega) x.2.2 (by rw [HTX.out]; omega)
   have HEX := xh (yy623 HXF.out.1 hx6 (by omega))
   have HTXX : Hid (tlen x.2.2 ≤ 4000) := xh (by omega)
   clear cx hx6 HTX
   go_wp2_with fail
   refine (GX.out _ HB.out).mono ?_
   rintro e x6 ⟨rfl, hb⟩
   replace HB := xh (HB.out.trans (hb.mono (by rw [HGG.out]; exact HB.out.size)))
   have HR6 := xh (own_below HR5.out hb)
   have HA6 := xh (HA5.out.below hb)
   have HO6 := xh (HO5.out.below hb)
   have HCO6 : Hid (∀ y ∈ L, ComO w x6 g y) := xh (fun y hy => ⟨(HCO5.out y hy).1, own_below (HCO5.out y hy).2.1 hb, (HCO5.out y hy).2.2⟩)
   have HOC6 := xh (HOC5.out.below hb)
   clear hb
   clear HR5 HA5 HO5 HCO5 HOC5 GX z0
   have GD := xh (yy107 HTU.out AT cT (some ⟨g5, 0, none⟩) 1 [edE 1 x.1 x.2.1 x.2.2] (by simp [maxLen]) (fun y hy => by rw [List.mem_singleton.1 hy]; exact yy640 HEX.out.good HXF.out.2.1 HXF.out.2.2 HTXX.out) (fun y hy => by rw [List.mem_singleton.1 hy]; rfl) x6 HO6.out.nodes HA6.out)
   simp only [yy84, List.length_cons, List.length_nil, Nat.zero_add] at GD
   by_cases ex : dErr u x.2.2 = 0
   rotate_left
   ·have HNA := xh (yy400 (A := x.1) (c := x.2.1) ex)
    clear ex
    obtain ⟨⟨X, px, ux⟩, HVX⟩ : ∃ r, Hid (doAllV (yy29 u) [edE 1 x.1 x.2.1 x.2.2] = r) := ⟨_, xh rfl⟩
    rw [HVX.out] at GD HNA
    clear HVX
    simp only at GD HNA
    have hun : (ux != 0) = true := by simpa using HNA.out
    go_wp2_with fail
    refine (GD.out).mono ?_
    rintro e x7 ⟨⟨AX, cX, rfl, hx, hon⟩, hb⟩
    replace HB := xh (HB.out.trans (hb.mono (by rw [HGG.out]; exact HB.out.size)))
    have HO7 := xh (HO6.out.below hb)
    have HCO7 : Hid (∀ y ∈ L, ComO w x7 g y) := xh (fun y hy => ⟨(HCO6.out y hy).1, own_below (HCO6.out y hy).2.1 hb, (HCO6.out y hy).2.2⟩)
    have HOC7 := xh (HOC6.out.below hb)
    clear hb hx hon GD HO6 HCO6 HOC6 HR6 HA6
    go_wp2_with fail
    go_roundw
    case rel => exact ⟨k + 1, AT, cT, u, A1, c1, L, r, by omega, rfl, rfl, by go_num, trivial, trivial, trivial, trivial, HO7, HTU, HLR, HRN, HCO7, xh (by have := HLL.out; omega), HOC7, HB⟩
    case measure => simp [intOf]; omega
   rw [yy106 ex] at GD
   simp only [yy84] at GD
   have HEX0 := xh ex
   have HTV : Hid (TreeM (yy29 (dTxt u x.2.2))) := xh (by
    have := yy455 (T := yy29 u) (l := [edE 1 x.1 x.2.1 x.2.2]) HTU.out (by rw [yy106 ex])
    rw [yy106 ex] at this
    exact this)
   clear ex
   go_wp2_with fail
   refine (GD.out).mono ?_
   rintro e x7 ⟨⟨AX, cX, rfl, hx, hon⟩, hb⟩
   have HB7 := xh (HB.out.trans (hb.mono (by rw [HGG.out]; exact HB.out.size)))
   have HO7 : Hid (OwnN x7 g AX cX (yy29 (dTxt u x.2.2))) := xh (yy34 (hon (by trivial) (by simp)) (by rw [HGG.out]; exact HB.out.size))
   have HR7 := xh (own_below HR6.out hb)
   have HCO7 : Hid (∀ y ∈ L, ComO w x7 g y) := xh (fun y hy => ⟨(HCO6.out y hy).1, own_below (HCO6.out y hy).2.1 hb, (HCO6.out y hy).2.2⟩)
   have HOC7 := xh (HOC6.out.below hb)
   have HGB7 : Hid (g ≤ x7.heap.size) := xh (by rw [HGG.out]; exact HB7.out.size)
   clear hb hx hon GD HO6 HCO6 HOC6 HR6 HA6 HB
   have HBL := xh ((Below.refl x7.heap.size x7).alloc (Nat.le_refl _) (Obj.cells (yy17 ⟨(k : Int), 1, 1, some ⟨g5, 0, none⟩, 1, [edE 1 x.1 x.2.1 x.2.2]⟩).toArray 61))
   have HCB : Hid (ComB ⟨(k : Int), 1, 1, some ⟨g5, 0, none⟩, 1, [edE 1 x.1 x.2.1 x.2.2]⟩) := xh ⟨fun a ha => by rw [List.mem_singleton.1 ha]; exact edE_b (by omega) _ HEX.out HTXX.out HXF.out.2.1 HXF.out.2.2, by simp, by simp⟩
   have hll : L.length ≤ 6 := by have := HLL.out; omega
   go_wp2_with (at_builtin
                refine yy210 rfl (.tmp 88) (.tmp 92) rfl (B := g) (out := L) (m := [⟨(k : Int), 1, 1, some ⟨g5, 0, none⟩, 1, [edE 1 x.1 x.2.1 x.2.2]⟩]) (HOC7.out.below HBL.out) (Nat.le_trans HGB7.out HBL.out.size) 1 (yy761 x7 ⟨(k : Int), 1, 1, some ⟨g5, 0, none⟩, 1, [edE 1 x.1 x.2.1 x.2.2]⟩ _ rfl) (by simp; omega) rfl rfl ?_
                intro A8 c8 w8 hown hbel hkeep
                have HOC8 := xh hown
                have HO8 : Hid (OwnN w8 g AX cX (yy29 (dTxt u x.2.2))) := xh (hkeep _ _ _ _ _ _ (by decide) (own_below HO7.out HBL.out))
                have HCO8 : Hid (∀ y ∈ L ++ [⟨(k : Int), 1, 1, some ⟨g5, 0, none⟩, 1, [edE 1 x.1 x.2.1 x.2.2]⟩], ComO w w8 g y) := xh (fun y hy => by
                 rcases List.mem_append.1 hy with h | h
                 ·exact ⟨(HCO7.out y h).1, hkeep _ _ _ _ _ _ (by decide) (own_below (HCO7.out y h).2.1 HBL.out), (HCO7.out y h).2.2⟩
                 ·rw [List.mem_singleton.1 h]
                  exact ⟨HCB.out, hkeep _ _ _ _ _ _ (by decide) (own_below HR7.out HBL.out), fun a ha => by rw [List.mem_singleton.1 ha]; exact HXO.out.1⟩)
                have HB8 := xh ((HB7.out.trans (HBL.out.mono HGB7.out)).trans hbel)
                clear hown hbel hkeep)
   go_roundw
   case rel => exact ⟨k + 1, AX, cX, dTxt u x.2.2, A8, c8, L ++ [⟨(k : Int), 1, 1, some ⟨g5, 0, none⟩, 1, [edE 1 x.1 x.2.1 x.2.2]⟩], r ++ [x], by omega, rfl, by rw [List.length_append]; rfl, by go_num, trivial, trivial, trivial, trivial, HO8, HTV, xh (by rw [List.map_append, List.map_append, HLR.out]; rfl), xh (Runs.snoc HRN.out HEX0.out), HCO8, xh (by have := HLL.out; simp; omega), HOC8, HB8⟩
   case measure => simp [intOf]; omega
  ·obtain rfl : k = l.length := by omega
   obtain ⟨w8, hw8⟩ : ∃ q, q = wr := ⟨_, rfl⟩
   subst hw8
   have hLN : L.length ≤ 6 := by have := HLL.out; omega
   have hgw : g ≤ w8.heap.size := by rw [HGG.out]; exact HB.out.size
   have HBF := xh (fun (X : World) (h : Below w8.heap.size w8 X) => HB.out.trans (h.mono hgw))
   have HCM := xh (fun (X : World) (h : Below w8.heap.size w8 X) => (yy764 HOC.out HCO.out (HGG.out ▸ HB.out)).below h)
   have HNT := xh (fun (X : World) (h : Below w8.heap.size w8 X) => HO.out.nodes.below h)
   have HCBL : Hid (∀ y ∈ L, ComB y) := xh (fun y hy => (HCO.out y hy).1)
   have HCAP := xh HOC.out.cap
   have HMATH := yy228 (B := M) (n := cm) HRN.out HDA.out.text HCK.out HDA.out.base
   rw [← HLR.out] at HMATH
   have HGBH := xh (fun (X : World) (h : Below w8.heap.size w8 X) (gx : Nat) (hgx : gx = X.heap.size) => (show Calls Tryd.prog 23 #[.slice (some ⟨gx, 0, none⟩) 1 1, .slice A1 L.length c1] (X.alloc (.cells #[.int .i64 4, .int .i64 1, .int .i64 0, .string { data := #[] }, .bool false, .slice M mine.length cm] 46)) _ from yy208 (some ⟨gx, 0, none⟩) 1 [edE 1 M cm mine] (by simp) (fun a ha => by rw [List.mem_singleton.1 ha]; exact HMB.out) A1 c1 L (by omega) HCBL.out _ (yy147 X (edE 1 M cm mine) (HMW.out _ (HBF.out X h)) gx hgx) ((HCM.out X h).below ((Below.refl _ _).alloc (Nat.le_refl _) _)) ((HCF.out _ (HBF.out X h)).below ((Below.refl _ _).alloc (Nat.le_refl _) _))))
   have HD := xh (Below.refl w8.heap.size w8)
   have HBA := xh ((Below.refl w8.heap.size w8).alloc (Nat.le_refl _) (.cells #[.int .i64 4, .int .i64 1, .int .i64 0, .string { data := #[] }, .bool false, .slice M mine.length cm] 46))
   clear HO HCO HOC HLR HRN HLL HB hgw
   obtain ⟨R, HRR⟩ : ∃ q, Hid (yy24 [edE 1 M cm mine] (L.map (·.acts)) = q) := ⟨_, xh rfl⟩
   rw [HRR.out] at HGBH HMATH
   rcases HMATH with ⟨d, rfl, hcd, hde⟩ | rfl
   rotate_left
   ·go_wp2_with fail
    refine (HGBH.out _ (Below.refl _ _) _ rfl).mono ?_
    rintro e x9 ⟨⟨A3, c3, o3, V3, rfl, ho3, hk3⟩, hb⟩
    replace HD := xh (HD.out.trans (HBA.out.trans (hb.mono (by simp))))
    clear hb ho3 hk3 HGBH
    go_wp2_with fail
    refine (GW.out _ (HBF.out _ HD.out)).mono ?_
    rintro e xz ⟨rfl, hb⟩
    replace HD := xh (HD.out.trans (hb.mono HD.out.size))
    clear hb
    go_wp2
    go_ret
    exact ⟨rfl, HBF.out _ HD.out⟩
   have HDE := xh hde
   clear hcd hde
   go_wp2_with fail
   refine (HGBH.out _ (Below.refl _ _) _ rfl).mono ?_
   rintro e x9 ⟨⟨A3, c3, o3, V3, rfl, ho3, hk3⟩, hb⟩
   replace HD := xh (HD.out.trans (HBA.out.trans (hb.mono (by simp))))
   obtain ⟨y, rfl, hky⟩ := yy306 hk3
   have HKY := xh hky
   have HYB := xh (ho3.made y (List.mem_singleton.2 rfl)).1
   have HYA := xh (fun (X : World) (h : Below x9.heap.size x9 X) => ho3.acts.below h)
   clear hb ho3 hk3 HGBH hky HBA
   simp only [List.length_cons, List.length_nil, Nat.zero_add]
   have HSA : Hid (ActsAt (x9.alloc (.cells #[.int .i64 4, .int .i64 1, .int .i64 0, .string { data := #[] }, .bool false, .slice M mine.length cm] 46)) (some ⟨x9.heap.size, 0, none⟩) [edE 1 M cm mine]) := xh (yy147 x9 (edE 1 M cm mine) (HMW.out _ (HBF.out _ HD.out)) _ rfl)
   have HBS := xh ((Below.refl x9.heap.size x9).alloc (Nat.le_refl _) (.cells #[.int .i64 4, .int .i64 1, .int .i64 0, .string { data := #[] }, .bool false, .slice M mine.length cm] 46))
   have HX9 := xh HD.out
   clear HD
   obtain ⟨l0, HL0⟩ : ∃ q, Hid ([edE 1 M cm mine] = q) := ⟨_, xh rfl⟩
   have HL1 : Hid (l0.length = 1) := xh (by rw [← HL0.out]; rfl)
   have HL2 : Hid (∀ a ∈ l0, ActB a) := xh (fun a ha => by rw [← HL0.out, List.mem_singleton] at ha; rw [ha]; exact HMB.out)
   rw [HL0.out] at HRR HSA
   go_wp2_with fail
   go_loopw [19, 20, 21, 22] (fun s19 s20 s21 s22 wr => ∃ (i : Nat) (AS : Option Addr) (cS : Nat) (o : List ActV), i ≤ L.length ∧ s19 = .slice AS o.length cS ∧ s20 = .int .i64 (i : Int) ∧ s21 = s21 ∧ s22 = s22 ∧ Hid ((yy24 l0 ((L.take i).map (·.acts))).2 = 0) ∧ Hid (o.map aKey = (yy24 l0 ((L.take i).map (·.acts))).1.map aKey) ∧ Hid (∀ a ∈ o, ActB a) ∧ Hid (o.length ≤ 1048576) ∧ Hid (ActsAt wr AS o) ∧ Hid (Below x9.heap.size x9 wr)) (fun _ s20 _ _ _ => L.length - (intOf s20).toNat)
   case atStart => exact ⟨0, some ⟨x9.heap.size, 0, none⟩, 1, l0, Nat.zero_le _, by rw [HL1.out], rfl, rfl, rfl, xh (by rw [List.take_zero, List.map_nil, yy52]), xh (by rw [List.take_zero, List.map_nil, yy52]), HL2, xh (by rw [HL1.out]; omega), HSA, HBS⟩
   case round =>
    clear HSA HBS
    obtain ⟨i, AS, cS, o, hi, rfl, rfl, _, _, HZ, HK, HOG, HOL, HOA, HBS⟩ := hrel
    have HDW := xh (HX9.out.trans (HBS.out.mono HX9.out.size))
    by_cases hlt : i < L.length
    ·have hiI : (i : Int) < (L.length : Int) := by omega
     obtain ⟨b, off, rfl, _⟩ := (HCM.out _ HDW.out).form (by omega)
     have hcut := (yy541 (HCM.out _ HDW.out) HCAP.out hlt).1
     have hone := (yy541 (HCM.out _ HDW.out) HCAP.out hlt).2
     have HTK : Hid ((L.take (i + 1)).map (·.acts) = (L.take i).map (·.acts) ++ [L[i].acts]) := xh (by rw [List.take_succ_eq_append_getElem hlt, List.map_append]; rfl)
     have HPRE : Hid ((yy24 l0 ((L.take (i + 1)).map (·.acts))).2 = 0) := xh (by
      refine yy421 (ds := (L.drop (i + 1)).map (·.acts)) ?_
      rw [← List.map_append, List.take_append_drop, HRR.out])
     have HCB1 := xh (HCBL.out _ (List.getElem_mem hlt))
     generalize L[i] = z at hone HTK HCB1
     have HNX : Hid (yy24 l0 ((L.take (i + 1)).map (·.acts)) = yy24 (yy24 l0 ((L.take i).map (·.acts))).1 [z.acts]) := xh (by rw [HTK.out, yy140 HZ.out])
     have HKQ := xh (yy224 (cs := [z.acts]) HK.out)
     have GBS := xh (yy208 AS cS o HOL.out HOG.out (some ⟨b, off + i * 4, none⟩) (c1 - i) [z] (by simp) (fun q hq => by rw [List.mem_singleton.1 hq]; exact HCB1.out) wr HOA.out hone (HCF.out _ (HBF.out _ HDW.out)))
     simp only [List.map_cons, List.map_nil, List.length_cons, List.length_nil, Nat.zero_add] at GBS
     rw [← HNX.out] at HKQ
     obtain ⟨Q, HQ⟩ : ∃ q, Hid (yy24 o [z.acts] = q) := ⟨_, xh rfl⟩
     rw [HQ.out] at GBS HKQ
     obtain ⟨Q1, Q2⟩ := Q
     simp only at GBS HKQ
     have hq2 : Q2 = 0 := HKQ.out.1.trans HPRE.out
     subst hq2
     have HQ1 := xh HKQ.out.2
     clear HKQ HQ hone HNX HTK HZ HK HOG HOL HOA HCB1
     go_wp2_with fail
     refine (GBS.out).mono ?_
     rintro e xq ⟨⟨A4, c4, o4, V4, rfl, ho4, hk4⟩, hb⟩
     have HBS2 := xh (HBS.out.trans (hb.mono HBS.out.size))
     have HOA2 := xh ho4.acts
     have HOG2 : Hid (∀ a ∈ o4, ActB a) := xh (fun a ha => (ho4.made a ha).1)
     have HK2 := xh (hk4.trans HQ1.out)
     have HOL2 : Hid (o4.length ≤ 1048576) := xh (by
      have h1 := yy638 HK2.out
      rw [h1]
      exact yy543 HL1.out ((L.take (i + 1)).map (·.acts)))
     clear hb ho4 hk4 GBS hcut HBS HDW
     go_wp2_with fail
     go_roundw
     case rel => exact ⟨i + 1, A4, c4, o4, by omega, rfl, by go_num, trivial, trivial, HPRE, HK2, HOG2, HOL2, HOA2, HBS2⟩
     case measure => simp [intOf]; omega
    ·obtain rfl : i = L.length := by omega
     rw [List.take_length, HRR.out] at HK
     have HD := HDW
     clear HDW HZ HRR
     have hyk : y.kind = 4 := by
      have := congrArg (·.1) HKY.out
      exact (show y.kind = (edE 1 M cm d).kind from this)
     have GDF := xh (yy107 HTU.out AT cT A3 c3 [y] (by simp [maxLen]) (fun q hq => by rw [List.mem_singleton.1 hq]; exact HYB.out.ok) (fun q hq => by rw [List.mem_singleton.1 hq]; exact hyk) wr (HNT.out _ HD.out) (HYA.out _ HBS.out))
     rw [yy539 (yy29 u) (show [y].map aKey = [edE 1 M cm d].map aKey by simp [HKY.out]), yy106 HDE.out] at GDF
     simp only [yy84, List.length_cons, List.length_nil, Nat.zero_add] at GDF
     clear hyk
     go_wp2_with fail
     refine (GDF.out).mono ?_
     rintro e xd ⟨⟨AX2, cX2, rfl, hx2, hon2⟩, hb⟩
     replace HD := xh (HD.out.trans (hb.mono HD.out.size))
     have HBS3 := xh (HBS.out.trans (hb.mono HBS.out.size))
     have HOA3 := xh (HOA.out.below hb)
     clear hb hx2 hon2 GDF
     have hkk : [y].map aKey = o.map aKey := by rw [HK.out]; simp [HKY.out]
     have GSM := yy215 A3 AS c3 cS [y] o (by simp [maxLen]) (by have := HOL.out; unfold maxLen; omega) (fun q hq => by rw [List.mem_singleton.1 hq]; exact HYB.out.1.1) (fun q hq => (HOG.out q hq).1.1) xd (HYA.out _ HBS3.out) HOA3.out
     rw [yy288 hkk] at GSM
     simp only [List.length_cons, List.length_nil, Nat.zero_add] at GSM
     have HGSM := xh GSM
     clear GSM hkk
     go_wp2_with fail
     refine (HGSM.out).mono ?_
     rintro e xs ⟨rfl, hb⟩
     replace HD := xh (HD.out.trans (hb.mono HD.out.size))
     clear hb HGSM
     go_wp2_with fail
     refine (GW.out _ (HBF.out _ HD.out)).mono ?_
     rintro e xz ⟨rfl, hb⟩
     replace HD := xh (HD.out.trans (hb.mono HD.out.size))
     clear hb
     go_wp2
     go_ret
     exact ⟨rfl, HBF.out _ HD.out⟩
end Go.Proofs.YtjpjdkdbgjipnaaDoor
