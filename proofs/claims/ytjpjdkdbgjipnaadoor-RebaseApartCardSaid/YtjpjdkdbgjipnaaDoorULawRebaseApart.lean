/- With nothing in common a transaction stays as it is, and may be done behind the other one; in either order the tree is the same: RebaseApart answers true and changes nothing. Condition: the table of conflicts holds what the program's text lays. -/
import Derived.Test.YtjpjdkdbgjipnaaDoorU31
import Derived.Test.YtjpjdkdbgjipnaaDoorU38
import Derived.Test.YtjpjdkdbgjipnaaDoorU35
import Derived.Test.YtjpjdkdbgjipnaaDoorU36
import Derived.Test.YtjpjdkdbgjipnaaDoorU39
import Derived.Test.YtjpjdkdbgjipnaaDoorU32
import Derived.Test.YtjpjdkdbgjipnaaDoorU30
namespace Go.Proofs.YtjpjdkdbgjipnaaDoor
open Go.RowKit Go.Deep
theorem yy891 {lim : Nat} (hlim : lim ≤ 4000) {l : List NodeV} (h : yy49 lim l ≤ lim) : l.length ≤ 4000 ∧ ∀ y ∈ l, y.name.length ≤ 4000 ∧ y.text.length ≤ 4000 := by
 obtain ⟨h1, h2⟩ := yy343 yy92 lim (by omega) l h
 have h3 := yy189 yy92 (fun x => by simp [yy92]; omega) l
 refine ⟨by omega, fun y hy => ?_⟩
 have := h1 y hy
 simp [yy92] at this
 omega
theorem yy410 {L : List OneV} {acts : List ActV} (h : L.map (·.k) = eff acts) (hl : acts.length ≤ 1048576) (hg : ∀ a ∈ acts, ActB a) (hy : ∀ y ∈ L, y.Good) : L.length ≤ 1048576 ∧ ∀ y ∈ L, y.Good ∧ KeyH y.k := by
 obtain ⟨h1, h2⟩ := yy113 h (fun a ha => (hg a ha).1) hy
 exact ⟨by omega, h2⟩
set_option maxHeartbeats 8000000 in
set_option maxRecDepth 100000 in
theorem yy305 (A : Option Addr) (T : List NodeV) (c : Nat) (B : Option Addr) (a : List ActV) (cb : Nat) (C : Option Addr) (b : List ActV) (cc : Nat) (hl : T.length ≤ maxLen) (hg : ∀ y ∈ T, y.Good) (hla : a.length ≤ maxLen) (hga : ∀ y ∈ a, y.Good) (hlb : b.length ≤ maxLen) (hgb : ∀ y ∈ b, y.Good) (w : World) (hA : yy14 w A T ∧ T.length ≤ c) (hB : ActsAt w B a ∧ a.length ≤ cb) (hD : ActsAt w C b ∧ b.length ≤ cc) (hC : ConfAt w) :
  Calls Tryd.prog 3 #[.slice A T.length c, .slice B a.length cb, .slice C b.length cc] w fun e w' => e = .returned (.bool true) ∧ Below w.heap.size w w' := by
 have HT := xh (fun (X : World) (h : Below w.heap.size w X) => (⟨hA.1.below h, hA.2⟩ : NodesC X A c T))
 have HA := xh (fun (X : World) (h : Below w.heap.size w X) => hB.1.below h)
 have HM := xh (fun (X : World) (h : Below w.heap.size w X) => hD.1.below h)
 have HCF := xh (fun (X : World) (h : Below w.heap.size w X) => hC.below h)
 have GW := xh (fun (X : World) (h : Below w.heap.size w X) => yy145 X (HCF.out X h))
 have G1 := xh (fun (X : World) (h : Below w.heap.size w X) => yy409 3000 c hl hg X (HT.out X h).1)
 have G2 := xh (fun (X : World) (h : Below w.heap.size w X) => yy117 2000 cb hla hga X (HA.out X h))
 have G3 := xh (fun (X : World) (h : Below w.heap.size w X) => yy117 2000 cc hlb hgb X (HM.out X h))
 have HLB := xh hB.2
 have HLC := xh hD.2
 clear hA hB hC hD
 obtain ⟨T1, HT1⟩ : ∃ x, Hid (yy49 3000 T = x) := ⟨_, xh rfl⟩
 obtain ⟨T2, HT2⟩ : ∃ x, Hid (yy34 2000 a = x) := ⟨_, xh rfl⟩
 obtain ⟨T3, HT3⟩ : ∃ x, Hid (yy34 2000 b = x) := ⟨_, xh rfl⟩
 rw [HT1.out] at G1
 rw [HT2.out] at G2
 rw [HT3.out] at G3
 have HB := xh (Below.refl w.heap.size w)
 by_cases g1 : 3000 < T1
 ·clear hg hga hgb
  go_enter Tryd.func3, Tryd.ntmps3
  go_wp2_with fail
  refine (G1.out _ HB.out).mono ?_
  rintro e x1 ⟨rfl, hb⟩
  replace HB := xh (HB.out.trans (hb.mono HB.out.size))
  clear hb
  go_wp2_with fail
  refine (GW.out _ HB.out).mono ?_
  rintro e x9 ⟨rfl, hb⟩
  replace HB := xh (HB.out.trans (hb.mono HB.out.size))
  clear hb
  go_wp2
  go_ret
  exact ⟨rfl, HB.out⟩
 obtain ⟨hl1, hnb⟩ := yy891 (lim := 3000) (by omega) (l := T) (by rw [HT1.out]; omega)
 by_cases g2 : 2000 < T2
 ·clear hg hga hgb hnb
  go_enter Tryd.func3, Tryd.ntmps3
  go_wp2_with fail
  refine (G1.out _ HB.out).mono ?_
  rintro e x1 ⟨rfl, hb⟩
  replace HB := xh (HB.out.trans (hb.mono HB.out.size))
  clear hb
  go_wp2_with fail
  refine (G2.out _ HB.out).mono ?_
  rintro e x2 ⟨rfl, hb⟩
  replace HB := xh (HB.out.trans (hb.mono HB.out.size))
  clear hb
  go_wp2_with fail
  refine (GW.out _ HB.out).mono ?_
  rintro e x9 ⟨rfl, hb⟩
  replace HB := xh (HB.out.trans (hb.mono HB.out.size))
  clear hb
  go_wp2
  go_ret
  exact ⟨rfl, HB.out⟩
 obtain ⟨hl2, hab⟩ := acts_b (lim := 2000) (by omega) hga (by rw [HT2.out]; omega)
 by_cases g3 : 2000 < T3
 ·clear hg hga hgb hnb hab
  go_enter Tryd.func3, Tryd.ntmps3
  go_wp2_with fail
  refine (G1.out _ HB.out).mono ?_
  rintro e x1 ⟨rfl, hb⟩
  replace HB := xh (HB.out.trans (hb.mono HB.out.size))
  clear hb
  go_wp2_with fail
  refine (G2.out _ HB.out).mono ?_
  rintro e x2 ⟨rfl, hb⟩
  replace HB := xh (HB.out.trans (hb.mono HB.out.size))
  clear hb
  go_wp2_with fail
  refine (G3.out _ HB.out).mono ?_
  rintro e x3 ⟨rfl, hb⟩
  replace HB := xh (HB.out.trans (hb.mono HB.out.size))
  clear hb
  go_wp2_with fail
  refine (GW.out _ HB.out).mono ?_
  rintro e x9 ⟨rfl, hb⟩
  replace HB := xh (HB.out.trans (hb.mono HB.out.size))
  clear hb
  go_wp2
  go_ret
  exact ⟨rfl, HB.out⟩
 obtain ⟨hl3, hbb⟩ := acts_b (lim := 2000) (by omega) hgb (by rw [HT3.out]; omega)
 have GO := xh (fun (X : World) (h : Below w.heap.size w X) => yy467 A c T (by omega) hg (fun y hy => by have := (hnb y hy).2; omega) X (HT.out X h).1)
 have HAB := xh hab
 have HBB := xh hbb
 have HGA := xh hga
 have hi1 : ¬ (3000 : Int) < (T1 : Int) := by omega
 have hi2 : ¬ (2000 : Int) < (T2 : Int) := by omega
 have hi3 : ¬ (2000 : Int) < (T3 : Int) := by omega
 clear hab hbb hga hgb hg hnb
 by_cases hS : SoundN T
 rotate_left
 ·rw [yy348 hS] at GO
  clear hS
  go_enter Tryd.func3, Tryd.ntmps3
  go_wp2_with fail
  refine (G1.out _ HB.out).mono ?_
  rintro e x1 ⟨rfl, hb⟩
  replace HB := xh (HB.out.trans (hb.mono HB.out.size))
  clear hb
  go_wp2_with fail
  refine (G2.out _ HB.out).mono ?_
  rintro e x2 ⟨rfl, hb⟩
  replace HB := xh (HB.out.trans (hb.mono HB.out.size))
  clear hb
  go_wp2_with fail
  refine (G3.out _ HB.out).mono ?_
  rintro e x3 ⟨rfl, hb⟩
  replace HB := xh (HB.out.trans (hb.mono HB.out.size))
  clear hb
  go_wp2_with fail
  refine (GO.out _ HB.out).mono ?_
  rintro e x4 ⟨rfl, hb⟩
  replace HB := xh (HB.out.trans (hb.mono HB.out.size))
  clear hb
  go_wp2_with fail
  refine (GW.out _ HB.out).mono ?_
  rintro e x9 ⟨rfl, hb⟩
  replace HB := xh (HB.out.trans (hb.mono HB.out.size))
  clear hb
  go_wp2
  go_ret
  exact ⟨rfl, HB.out⟩
 have HTM := xh (TreeM.of hS)
 rw [yy389 hS] at GO
 clear hS
 have GD1 := xh (fun (X : World) (h : Below w.heap.size w X) => yy36 HTM.out A c B cb a hla (fun y hy => (HAB.out y hy).ok) X (HT.out X h) (HA.out X h))
 have GD2 := xh (fun (X : World) (h : Below w.heap.size w X) => yy36 HTM.out A c C cc b hlb (fun y hy => (HBB.out y hy).ok) X (HT.out X h) (HM.out X h))
 have HSW := xh (fun h1 h2 h3 h4 h5 => yy565 (T := T) (a := a) (b := b) HTM.out h1 h2 h3 h4 h5)
 have HX0 := xh (fun h => yy54 (T := T) (l := a) HTM.out h)
 have HY0 := xh (fun h => yy54 (T := T) (l := b) HTM.out h)
 have HCA := xh (fun h => (yy125 (T := T) (l := a) h).1)
 have HCB := xh (fun h => (yy125 (T := T) (l := b) h).1)
 obtain ⟨⟨X, px, ux⟩, HVX⟩ : ∃ r, Hid (doAllV T a = r) := ⟨_, xh rfl⟩
 obtain ⟨⟨Y, py, uy⟩, HVY⟩ : ∃ r, Hid (doAllV T b = r) := ⟨_, xh rfl⟩
 rw [HVX.out] at GD1 HX0 HSW HCA
 rw [HVY.out] at GD2 HY0 HSW HCB
 clear HVX HVY
 simp only at GD1 GD2 HX0 HY0 HSW HCA HCB
 by_cases hux : ux = 0
 rotate_left
 ·have hun : (ux != 0) = true := by simpa using hux
  clear hux
  go_enter Tryd.func3, Tryd.ntmps3
  go_wp2_with fail
  refine (G1.out _ HB.out).mono ?_
  rintro e x1 ⟨rfl, hb⟩
  replace HB := xh (HB.out.trans (hb.mono HB.out.size))
  clear hb
  go_wp2_with fail
  refine (G2.out _ HB.out).mono ?_
  rintro e x2 ⟨rfl, hb⟩
  replace HB := xh (HB.out.trans (hb.mono HB.out.size))
  clear hb
  go_wp2_with fail
  refine (G3.out _ HB.out).mono ?_
  rintro e x3 ⟨rfl, hb⟩
  replace HB := xh (HB.out.trans (hb.mono HB.out.size))
  clear hb
  go_wp2_with fail
  refine (GO.out _ HB.out).mono ?_
  rintro e x4 ⟨rfl, hb⟩
  replace HB := xh (HB.out.trans (hb.mono HB.out.size))
  clear hb
  go_wp2_with fail
  refine (GD1.out _ HB.out).mono ?_
  rintro e x5 ⟨⟨AX, cX, rfl, hx⟩, hb⟩
  replace HB := xh (HB.out.trans (hb.mono HB.out.size))
  have HX := xh hx
  clear hx
  clear hb
  go_wp2_with fail
  refine (GD2.out _ HB.out).mono ?_
  rintro e x6 ⟨⟨AY, cY, rfl, hy⟩, hb⟩
  replace HB := xh (HB.out.trans (hb.mono HB.out.size))
  replace HX := xh (HX.out.below hb)
  have HY := xh hy
  clear hy
  clear hb
  go_wp2_with fail
  refine (GW.out _ HB.out).mono ?_
  rintro e x9 ⟨rfl, hb⟩
  replace HB := xh (HB.out.trans (hb.mono HB.out.size))
  clear hb
  go_wp2
  go_ret
  exact ⟨rfl, HB.out⟩
 by_cases huy : uy = 0
 rotate_left
 ·have hun : (uy != 0) = true := by simpa using huy
  have hux2 : (ux != 0) = false := by rw [hux]; rfl
  clear huy hux
  go_enter Tryd.func3, Tryd.ntmps3
  go_wp2_with fail
  refine (G1.out _ HB.out).mono ?_
  rintro e x1 ⟨rfl, hb⟩
  replace HB := xh (HB.out.trans (hb.mono HB.out.size))
  clear hb
  go_wp2_with fail
  refine (G2.out _ HB.out).mono ?_
  rintro e x2 ⟨rfl, hb⟩
  replace HB := xh (HB.out.trans (hb.mono HB.out.size))
  clear hb
  go_wp2_with fail
  refine (G3.out _ HB.out).mono ?_
  rintro e x3 ⟨rfl, hb⟩
  replace HB := xh (HB.out.trans (hb.mono HB.out.size))
  clear hb
  go_wp2_with fail
  refine (GO.out _ HB.out).mono ?_
  rintro e x4 ⟨rfl, hb⟩
  replace HB := xh (HB.out.trans (hb.mono HB.out.size))
  clear hb
  go_wp2_with fail
  refine (GD1.out _ HB.out).mono ?_
  rintro e x5 ⟨⟨AX, cX, rfl, hx⟩, hb⟩
  replace HB := xh (HB.out.trans (hb.mono HB.out.size))
  have HX := xh hx
  clear hx
  clear hb
  go_wp2_with fail
  refine (GD2.out _ HB.out).mono ?_
  rintro e x6 ⟨⟨AY, cY, rfl, hy⟩, hb⟩
  replace HB := xh (HB.out.trans (hb.mono HB.out.size))
  replace HX := xh (HX.out.below hb)
  have HY := xh hy
  clear hy
  clear hb
  go_wp2_with fail
  refine (GW.out _ HB.out).mono ?_
  rintro e x9 ⟨rfl, hb⟩
  replace HB := xh (HB.out.trans (hb.mono HB.out.size))
  clear hb
  go_wp2
  go_ret
  exact ⟨rfl, HB.out⟩
 subst hux huy
 have HXM := xh (HX0.out rfl)
 have HYM := xh (HY0.out rfl)
 have HCA' := xh (HCA.out rfl)
 have HCB' := xh (HCB.out rfl)
 have HSW' := xh (fun h => HSW.out rfl rfl h)
 clear HX0 HY0 HCA HCB HSW
 have GT1 := xh (fun (Z : World) (h : Below w.heap.size w Z) => yy127 B cb a (by omega) Z (HA.out Z h))
 have GT2 := xh (fun (Z : World) (h : Below w.heap.size w Z) => yy127 C cc b (by omega) Z (HM.out Z h))
 have GOF := xh (fun (Z : World) (h : Below w.heap.size w Z) => yy124 C cc b (by omega) HLC.out (fun y hy => (HBB.out y hy).1) Z (HM.out Z h))
 have GS := xh (fun (Z : World) (h : Below w.heap.size w Z) (A' : Option Addr) (c' V : Nat) (o : List ActV) (ho : OutS Z V A' c' o) (hk : o.map aKey = a.map aKey) => by
  have q := yy164 A' B c' cb o a (by rw [yy656 hk]; exact hla) hla (fun y hy => (ho.made y hy).1.1.1) HGA.out Z ho.acts (HA.out Z h)
  rw [yy279 hk] at q
  exact q)
 have GOV := xh (fun (Z : World) (h : Below w.heap.size w Z) (A1 : Option Addr) (c1 : Nat) (L : List OneV) (hk : L.map (·.k) = eff b) (hgd : ∀ y ∈ L, y.Good) (hc1 : L.length ≤ c1) (hat : OnesAt Z A1 L) => yy99 B cb a (by omega) HLB.out HAB.out A1 c1 L (yy410 hk (by omega) HBB.out hgd).1 hc1 (yy410 hk (by omega) HBB.out hgd).2 Z (HA.out Z h) hat (HCF.out Z h))
 have HID := xh (fun h => yy617 (l := a) (ks := eff b) HCA'.out (yy768 (l := a) (m := b) HCB'.out h))
 have HTA : Hid (∀ x ∈ a, x.id ∈ tch a) := xh (fun x hx => tch_id hx)
 have HTB : Hid (∀ x ∈ b, x.id ∈ tch b) := xh (fun x hx => tch_id hx)
 have hta := yy657 a
 have htb := yy657 b
 go_enter Tryd.func3, Tryd.ntmps3
 go_wp2_with fail
 refine (G1.out _ HB.out).mono ?_
 rintro e x1 ⟨rfl, hb⟩
 replace HB := xh (HB.out.trans (hb.mono HB.out.size))
 clear hb
 go_wp2_with fail
 refine (G2.out _ HB.out).mono ?_
 rintro e x2 ⟨rfl, hb⟩
 replace HB := xh (HB.out.trans (hb.mono HB.out.size))
 clear hb
 go_wp2_with fail
 refine (G3.out _ HB.out).mono ?_
 rintro e x3 ⟨rfl, hb⟩
 replace HB := xh (HB.out.trans (hb.mono HB.out.size))
 clear hb
 go_wp2_with fail
 refine (GO.out _ HB.out).mono ?_
 rintro e x4 ⟨rfl, hb⟩
 replace HB := xh (HB.out.trans (hb.mono HB.out.size))
 clear hb
 go_wp2_with fail
 refine (GD1.out _ HB.out).mono ?_
 rintro e x5 ⟨⟨AX, cX, rfl, hx⟩, hb⟩
 replace HB := xh (HB.out.trans (hb.mono HB.out.size))
 have HX := xh hx
 clear hx
 clear hb
 go_wp2_with fail
 refine (GD2.out _ HB.out).mono ?_
 rintro e x6 ⟨⟨AY, cY, rfl, hy⟩, hb⟩
 replace HB := xh (HB.out.trans (hb.mono HB.out.size))
 replace HX := xh (HX.out.below hb)
 have HY := xh hy
 clear hy
 clear hb
 clear GD1 GD2
 go_wp2_with fail
 refine (GT1.out _ HB.out).mono ?_
 rintro e y1 ⟨⟨A2, c2, rfl, hn⟩, hb⟩
 replace HB := xh (HB.out.trans (hb.mono HB.out.size))
 replace HX := xh (HX.out.below hb)
 replace HY := xh (HY.out.below hb)
 have HN1 := xh hn
 clear hb hn GT1
 go_wp2_with fail
 refine (GT2.out _ HB.out).mono ?_
 rintro e y2 ⟨⟨A3, c3, rfl, hn⟩, hb⟩
 replace HB := xh (HB.out.trans (hb.mono HB.out.size))
 replace HX := xh (HX.out.below hb)
 replace HY := xh (HY.out.below hb)
 have hn1 := HN1.out.below hb
 have HP := xh (fun (Z : World) (h : Below y2.heap.size y2 Z) => hn1.below h)
 have HQ := xh (fun (Z : World) (h : Below y2.heap.size y2 Z) => hn.below h)
 have HX2 := xh (fun (Z : World) (h : Below y2.heap.size y2 Z) => HX.out.below h)
 have HY2 := xh (fun (Z : World) (h : Below y2.heap.size y2 Z) => HY.out.below h)
 have HD := xh (Below.refl y2.heap.size y2)
 clear hb hn hn1 HN1 GT2 HX HY
 obtain ⟨tp, HTP⟩ : ∃ t, Hid (tch a = t) := ⟨_, xh rfl⟩
 obtain ⟨tq, HTQ⟩ : ∃ t, Hid (tch b = t) := ⟨_, xh rfl⟩
 rw [HTP.out] at HP HTA HID hta ⊢
 rw [HTQ.out] at HQ HTB htb ⊢
 go_wp2_with fail
 go_loopw [15, 16] (fun s15 s16 wr => ∃ k : Nat, k ≤ tp.length ∧ s15 = .int .i64 (k : Int) ∧ s16 = s16 ∧ Hid (∀ (i : Nat) (h : i < tp.length), i < k → ∀ z ∈ tq, tp[i] ≠ z) ∧ Hid (Below y2.heap.size y2 wr) ∧ Hid (Below w.heap.size w wr)) (fun s15 _ _ => tp.length - (intOf s15).toNat)
 case atStart => exact ⟨0, Nat.zero_le _, rfl, rfl, xh (fun i h hi => by omega), HD, HB⟩
 case round =>
  clear HB HD
  obtain ⟨k, hk, rfl, _, HDN, HD, HB⟩ := hrel
  by_cases hlt : k < tp.length
  ·have hltI : (k : Int) < (tp.length : Int) := by omega
   obtain ⟨gi, oi, rfl, _⟩ := (HP.out _ (Below.refl _ _)).form (by omega)
   have HP3 : Hid (∀ Z : World, Below y2.heap.size y2 Z → Z.cell? ⟨gi, oi + k, none⟩ = some (.int .i64 tp[k])) := xh (fun Z h => (HP.out Z h).get hlt)
   have HNX : Hid ((∀ z ∈ tq, tp[k] ≠ z) → ∀ (i : Nat) (h : i < tp.length), i < k + 1 → ∀ z ∈ tq, tp[i] ≠ z) := xh (fun hid i h hi => by
    rcases Nat.lt_or_ge i k with q | q
    ·exact HDN.out i h q
    ·obtain rfl : i = k := by omega
     exact hid)
   clear HDN
   generalize tp[k] = ti at HP3 HNX
   go_wp2_with fail
   go_loopw [16] (fun s16 wr => ∃ m : Nat, m ≤ tq.length ∧ s16 = .int .i64 (m : Int) ∧ Hid (∀ (i : Nat) (h : i < tq.length), i < m → ti ≠ tq[i]) ∧ Hid (Below y2.heap.size y2 wr) ∧ Hid (Below w.heap.size w wr)) (fun s16 _ => tq.length - (intOf s16).toNat)
   case atStart => exact ⟨0, Nat.zero_le _, rfl, xh (fun i h hi => by omega), HD, HB⟩
   case round =>
    clear HB HD
    obtain ⟨m, hm, rfl, HDN, HD, HB⟩ := hrel
    by_cases hlt2 : m < tq.length
    ·obtain ⟨gj, oj, rfl, _⟩ := (HQ.out _ (Below.refl _ _)).form (by omega)
     have hltM : (m : Int) < (tq.length : Int) := by omega
     have HQ3 : Hid (∀ Z : World, Below y2.heap.size y2 Z → Z.cell? ⟨gj, oj + m, none⟩ = some (.int .i64 tq[m])) := xh (fun Z h => (HQ.out Z h).get hlt2)
     have HNX3 : Hid (ti ≠ tq[m] → ∀ (i : Nat) (h : i < tq.length), i < m + 1 → ti ≠ tq[i]) := xh (fun hid i h hi => by
      rcases Nat.lt_or_ge i m with q | q
      ·exact HDN.out i h q
      ·obtain rfl : i = m := by omega
       exact hid)
     clear HDN
     generalize tq[m] = tj at HQ3 HNX3
     have HDD := xh HD.out.drew
     have HBD := xh HB.out.drew
     by_cases heq : ti = tj
     ·have d1 : (ti == tj) = true := by rw [heq]; simp
      clear heq
      go_wp2_with fail
      refine wp_region_lit sc12 (by kernel_rfl) (by kernel_rfl) (fun _ _ d _ _ h => by cases d <;> exact h) ?_
      simp only [picked, sc12, xmc, xmn, xgs, xgz, xgd]
      have q0 := fun e : Ext wr.drew => HP3.out e.val (HDD.out.trans (e.property.mono HDD.out.size))
      have q1 := fun e : Ext wr.drew => HQ3.out e.val (HDD.out.trans (e.property.mono HDD.out.size))
      repeat (first | (refine yy0 (by rfl) (fun K hK => ?_); go_big_quiet_op; refine hK _ ?_; clear hK K) | (refine yy2 (by rfl) ?_; simp only [Act.put, xsa, xsz, xss]))
      refine yy13 ?_
      clear HB HD
      have HB := HBD
      go_wp2_with fail
      refine (GW.out _ HB.out).mono ?_
      rintro e x9 ⟨rfl, hb⟩
      replace HB := xh (HB.out.trans (hb.mono HB.out.size))
      clear hb
      go_wp2
      go_ret
      exact ⟨rfl, HB.out⟩
     ·have d1 : (ti == tj) = false := xn heq
      have HN4 := xh (HNX3.out heq)
      clear heq
      go_wp2_with fail
      refine wp_region_lit sc12 (by kernel_rfl) (by kernel_rfl) (fun _ _ d _ _ h => by cases d <;> exact h) ?_
      simp only [picked, sc12, xmc, xmn, xgs, xgz, xgd]
      have q0 := fun e : Ext wr.drew => HP3.out e.val (HDD.out.trans (e.property.mono HDD.out.size))
      have q1 := fun e : Ext wr.drew => HQ3.out e.val (HDD.out.trans (e.property.mono HDD.out.size))
      repeat (first | (refine yy0 (by rfl) (fun K hK => ?_); go_big_quiet_op; refine hK _ ?_; clear hK K) | (refine yy2 (by rfl) ?_; simp only [Act.put, xsa, xsz, xss]))
      refine yy13 ?_
      go_wp2
      go_roundw
      case rel => exact ⟨m + 1, by omega, by go_num, HN4, HDD, HBD⟩
      case measure => simp [intOf]; omega
    ·obtain rfl : m = tq.length := by omega
     have hltM : ¬ (tq.length : Int) < (tq.length : Int) := by omega
     have HN4 := xh (HNX.out (fun z hz => by
      obtain ⟨i, hi, rfl⟩ := List.getElem_of_mem hz
      exact HDN.out i hi hi))
     clear HNX HDN
     go_wp2
     go_roundw
     case rel => exact ⟨k + 1, by omega, by go_num, trivial, HN4, HD, HB⟩
     case measure => simp [intOf]; omega
  ·obtain rfl : k = tp.length := by omega
   have hltI : ¬ (tp.length : Int) < (tp.length : Int) := by omega
   have hne : ∀ x ∈ tp, ∀ z ∈ tq, x ≠ z := fun x hx => by
    obtain ⟨i, hi, rfl⟩ := List.getElem_of_mem hx
    exact HDN.out i hi hi
   have HRB := xh (HID.out (fun z hz y hy e => hne z hz y.id (HTB.out y hy) e.symm))
   have HSWA := xh (HSW'.out (fun x hx y hy => hne x.id (HTA.out x hx) y.id (HTB.out y hy)))
   clear hne HDN HID HSW'
   have HXW := xh (HX2.out _ HD.out)
   have HYW := xh (HY2.out _ HD.out)
   clear HD HX2 HY2 HP HQ
   go_wp2_with fail
   refine (GOF.out _ HB.out).mono ?_
   rintro e x7 ⟨⟨v, rfl, A4, c4, L, rfl, hat, hk, hgd, hc4⟩, hb⟩
   replace HB := xh (HB.out.trans (hb.mono HB.out.size))
   replace HXW := xh (HXW.out.below hb)
   replace HYW := xh (HYW.out.below hb)
   have GV := xh (GOV.out x7 HB.out A4 c4 L hk hgd hc4 hat)
   rw [hk, HRB.out] at GV
   clear hb hat hk hgd hc4 GOF GOV
   go_wp2_with fail
   refine (GV.out).mono ?_
   rintro e x8 ⟨⟨A5, c5, o5, v5, V5, rfl, ho, hk5, _⟩, hb⟩
   replace HB := xh (HB.out.trans (hb.mono HB.out.size))
   replace HXW := xh (HXW.out.below hb)
   replace HYW := xh (HYW.out.below hb)
   have GS5 := xh (GS.out x8 HB.out A5 c5 V5 o5 ho hk5)
   clear hb ho hk5 GV GS
   go_wp2_with fail
   refine (GS5.out).mono ?_
   rintro e x5 ⟨rfl, hb⟩
   replace HB := xh (HB.out.trans (hb.mono HB.out.size))
   replace HXW := xh (HXW.out.below hb)
   replace HYW := xh (HYW.out.below hb)
   clear hb
   have GD3 := xh (fun (Z : World) (h : Below w.heap.size w Z) (hz : NodesC Z AY cY Y) => yy36 HYM.out AY cY B cb a hla (fun y hy => (HAB.out y hy).ok) Z hz (HA.out Z h))
   have GD4 := xh (fun (Z : World) (h : Below w.heap.size w Z) (hz : NodesC Z AX cX X) => yy36 HXM.out AX cX C cc b hlb (fun y hy => (HBB.out y hy).ok) Z hz (HM.out Z h))
   have HU0 := xh (fun h => yy54 (T := Y) (l := a) HYM.out h)
   have HV0 := xh (fun h => yy54 (T := X) (l := b) HXM.out h)
   obtain ⟨⟨U, pu, uu⟩, HVU⟩ : ∃ r, Hid (doAllV Y a = r) := ⟨_, xh rfl⟩
   obtain ⟨⟨V, pv, uv⟩, HVV⟩ : ∃ r, Hid (doAllV X b = r) := ⟨_, xh rfl⟩
   rw [HVU.out] at GD3 HU0 HSWA
   rw [HVV.out] at GD4 HV0 HSWA
   clear HVU HVV
   simp only at GD3 GD4 HU0 HV0 HSWA
   go_wp2_with fail
   refine (GD3.out _ HB.out HYW.out).mono ?_
   rintro e z3 ⟨⟨AU, cU, rfl, hu⟩, hb⟩
   replace HB := xh (HB.out.trans (hb.mono HB.out.size))
   replace HXW := xh (HXW.out.below hb)
   have HUW := xh hu
   clear hb hu GD3 HYW
   go_wp2_with fail
   refine (GD4.out _ HB.out HXW.out).mono ?_
   rintro e z4 ⟨⟨AV, cV, rfl, hv⟩, hb⟩
   replace HB := xh (HB.out.trans (hb.mono HB.out.size))
   replace HUW := xh (HUW.out.below hb)
   have HVW := xh hv
   clear hb hv GD4 HXW
   by_cases huu : uu = 0
   rotate_left
   ·have hun : (uu != 0) = true := by simpa using huu
    clear huu
    go_wp2_with fail
    refine (GW.out _ HB.out).mono ?_
    rintro e x9 ⟨rfl, hb⟩
    replace HB := xh (HB.out.trans (hb.mono HB.out.size))
    clear hb
    go_wp2
    go_ret
    exact ⟨rfl, HB.out⟩
   by_cases huv : uv = 0
   rotate_left
   ·have hun : (uv != 0) = true := by simpa using huv
    have huu2 : (uu != 0) = false := by rw [huu]; rfl
    clear huv huu
    go_wp2_with fail
    refine (GW.out _ HB.out).mono ?_
    rintro e x9 ⟨rfl, hb⟩
    replace HB := xh (HB.out.trans (hb.mono HB.out.size))
    clear hb
    go_wp2
    go_ret
    exact ⟨rfl, HB.out⟩
   subst huu huv
   obtain rfl := HSWA.out rfl rfl
   have GSM := xh (fun (Z : World) (h1 : yy14 Z AU U) (h2 : yy14 Z AV U) => kSame (HU0.out rfl) (HU0.out rfl) AU AV cU cV Z h1 h2)
   rw [yy601] at GSM
   go_wp2_with fail
   refine (GSM.out _ HUW.out.1 HVW.out.1).mono ?_
   rintro e x6 ⟨rfl, hb⟩
   replace HB := xh (HB.out.trans (hb.mono HB.out.size))
   clear hb
   go_wp2_with fail
   refine (GW.out _ HB.out).mono ?_
   rintro e x9 ⟨rfl, hb⟩
   replace HB := xh (HB.out.trans (hb.mono HB.out.size))
   clear hb
   go_wp2
   go_ret
   exact ⟨rfl, HB.out⟩
end Go.Proofs.YtjpjdkdbgjipnaaDoor
