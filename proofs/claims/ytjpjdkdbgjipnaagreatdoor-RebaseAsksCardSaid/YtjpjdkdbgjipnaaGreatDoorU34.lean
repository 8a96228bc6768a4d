/- The landed rebase's Over: a transaction behind what was done. Conditions: acts and what was done that may be looked at, in slices with room for them; the table of conflicts holds what the program's text lays. -/
import Derived.Test.YtjpjdkdbgjipnaaGreatDoorU38
import Derived.Test.YtjpjdkdbgjipnaaGreatDoorU18
import Derived.Test.YtjpjdkdbgjipnaaGreatDoorU46
import Derived.Test.YtjpjdkdbgjipnaaGreatDoorU24
import Derived.Test.YtjpjdkdbgjipnaaGreatDoorU33
import Derived.Test.YtjpjdkdbgjipnaaGreatDoorU22
namespace Go.Proofs.YtjpjdkdbgjipnaaGreatDoor
open Go.RowKit Go.Deep
def MadeA (w : World) (V : Nat) (y : ActV) : Prop := ActB y ∧ w.ownsRow V 60 3 (.slice y.opsA y.ops.length y.opsC) y.ops.length (y.ops.flatMap yy2)
structure OutS (w : World) (V : Nat) (A : Option Addr) (c : Nat) (l : List ActV) : Prop where
 own : OwnA w V A c l
 made : ∀ y ∈ l, MadeA w V y
theorem OutS.below {w w' : World} {V c : Nat} {A : Option Addr} {l : List ActV} (h : OutS w V A c l) (hb : Below w.heap.size w w') : OutS w' V A c l := ⟨h.own.below hb, fun y hy => ⟨(h.made y hy).1, own_below (h.made y hy).2 hb⟩⟩
theorem OutS.acts {w : World} {V c : Nat} {A : Option Addr} {l : List ActV} (h : OutS w V A c l) : ActsAt w A l := ⟨h.own.at_, fun y hy => yy7.of_own (h.made y hy).2⟩
def yy756 (w' : World) (R : List ActV × Int) (K : List OneK) (e : Ending) : Prop :=
 ∃ A' c' out v V, e = .returned (.tuple #[.slice A' (List.length out) c', v, .int .i64 R.2]) ∧ OutS w' V A' c' out ∧ out.map aKey = R.1.map aKey ∧ EffRes w' v K
theorem yy425 {l : List ActV} {ks : List OneK} (h : rChk l ≠ 0) : rRb l ks = ([], rChk l) := by unfold rRb; rw [if_pos h]
theorem yy559 {l : List ActV} {ks : List OneK} (h : rChk l = 0) (h2 : (rbR ks [] l).2 ≠ 0) : rRb l ks = ([], (rbR ks [] l).2) := by unfold rRb; rw [if_neg (fun e => e h), if_pos h2]
theorem yy560 {l : List ActV} {ks : List OneK} (h : rChk l = 0) (h2 : (rbR ks [] l).2 = 0) (h3 : rChk (rbR ks [] l).1 ≠ 0) : rRb l ks = ([], rChk (rbR ks [] l).1) := by unfold rRb; rw [if_neg (fun e => e h), if_neg (fun e => e h2), if_pos h3]
theorem yy561 {l : List ActV} {ks : List OneK} (h : rChk l = 0) (h2 : (rbR ks [] l).2 = 0) (h3 : rChk (rbR ks [] l).1 = 0) : rRb l ks = ((rbR ks [] l).1, 0) := by unfold rRb; rw [if_neg (fun e => e h), if_neg (fun e => e h2), if_neg (fun e => e h3)]
theorem yy330 {l : List ActV} {ks : List OneK} (h : (rRb l ks).2 ≠ 0) : yy106 l ks = ks := if_pos h
theorem yy255 {l : List ActV} {ks : List OneK} (h : (rRb l ks).2 = 0) : yy106 l ks = overK ks l := if_neg (fun e => e h)
set_option maxHeartbeats 16000000 in
set_option maxRecDepth 100000 in
theorem yy235 (A : Option Addr) (c : Nat) (l : List ActV) (hl : l.length ≤ 1048576) (hcap : l.length ≤ c) (hg : ∀ a ∈ l, ActB a) (B : Option Addr) (d : Nat) (bs : List OneV) (hbl : bs.length ≤ 1048576) (hbd : bs.length ≤ d) (hbg : ∀ y ∈ bs, y.Good ∧ KeyH y.k) (w : World) (hA : ActsAt w A l) (hB : OnesAt w B bs) (hC : ConfAt w) :
  Calls Tryz.prog 8 #[.slice A l.length c, .slice B bs.length d] w fun e w' => yy756 w' (rRb l (bs.map (·.k))) (yy106 l (bs.map (·.k))) e ∧ Below w.heap.size w w' := by
 obtain ⟨V, hV⟩ : ∃ V, V = w.heap.size := ⟨_, rfl⟩
 have GC := xh (yy231 A c l (by unfold maxLen; omega) hcap (fun a ha => (hg a ha).ok) w hA)
 have GCO := xh (fun (X : World) (A' : Option Addr) (c' : Nat) (out : List ActV) (h : OutS X V A' c' out) => yy231 A' c' out (yy400 h.own) h.own.cap (fun a ha => (h.made a ha).1.ok) X h.acts)
 have GE := xh (fun (X : World) (h : Below w.heap.size w X) => yy254 B d bs hbl hbd hbg none 0 [] (by simp) (by simp) (fun a ha => by cases ha) X (hB.below h) ⟨.inl rfl, fun a ha => by cases ha⟩)
 have GL := xh (fun (X : World) (h : Below w.heap.size w X) => yy254 B d bs hbl hbd hbg A c l hl hcap (fun a ha => (hg a ha).1) X (hB.below h) (hA.below h))
 have GW := xh (fun (a : ActV) (hn : Bytes a.name) (X : World) (h : Below w.heap.size w X) => yy534 B d bs a hbl hbg hn X (hB.below h) (hC.below h))
 have GG := xh (fun (id : Int) (X : World) (h : Below w.heap.size w X) => yy317 B d bs id hbl hbg X (hB.below h))
 have HKH : Hid (∀ id, KeyH (getK0 (bs.map (·.k)) id)) := xh (fun id => by
  unfold getK0
  cases hf : (bs.map (·.k)).find? (fun k => decide (k.id = id)) with
  | none => exact ⟨yy172, Nat.zero_le _⟩
  | some k =>
   obtain ⟨y, hy, rfl⟩ := List.mem_map.1 (List.mem_of_find?_eq_some hf)
   exact (hbg y hy).2)
 simp only [yy586, List.length_nil] at GE
 generalize bs.map (·.k) = ks at GE GL GW GG HKH ⊢
 obtain ⟨R, HR⟩ : ∃ R, Hid (rRb l ks = R) := ⟨_, xh rfl⟩
 obtain ⟨K, HK⟩ : ∃ K, Hid (yy106 l ks = K) := ⟨_, xh rfl⟩
 rw [HR.out, HK.out]
 have HKN : Hid (R.2 ≠ 0 → K = ks) := xh (fun h => by rw [← HK.out]; exact yy330 (by rw [HR.out]; exact h))
 have HKY : Hid (R.2 = 0 → K = overK ks l) := xh (fun h => by rw [← HK.out]; exact yy255 (by rw [HR.out]; exact h))
 have HF1 : Hid (rChk l ≠ 0 → R = ([], rChk l)) := xh (fun h => by rw [← HR.out]; exact yy425 h)
 obtain ⟨Q, HQ⟩ : ∃ Q, Hid (rbR ks [] l = Q) := ⟨_, xh rfl⟩
 have HF2 : Hid (rChk l = 0 → Q.2 ≠ 0 → R = ([], Q.2)) := xh (fun h1 h => by rw [← HQ.out] at h ⊢; rw [← HR.out]; exact yy559 h1 h)
 have HF3 : Hid (rChk l = 0 → Q.2 = 0 → rChk Q.1 ≠ 0 → R = ([], rChk Q.1)) := xh (fun h1 h2 h => by rw [← HQ.out] at h2 h ⊢; rw [← HR.out]; exact yy560 h1 h2 h)
 have HF4 : Hid (rChk l = 0 → Q.2 = 0 → rChk Q.1 = 0 → R = (Q.1, 0)) := xh (fun h1 h2 h => by rw [← HQ.out] at h2 h ⊢; rw [← HR.out]; exact yy561 h1 h2 h)
 have HA := xh (fun (X : World) (h : Below w.heap.size w X) => hA.below h)
 have HG := xh hg
 clear hA hB hC hg hbg HR HK hcap hbd
 rw [← hV] at GE GL GW GG HA ⊢
 have HV := xh hV
 clear hV
 obtain ⟨rc, HRC⟩ : ∃ r, Hid (rChk l = r) := ⟨_, xh rfl⟩
 rw [HRC.out] at GC HF1 HF2 HF3 HF4
 go_enter Tryz.func8, Tryz.ntmps8
 go_wp2
 refine yy357 ?_
 go_wp2_with fail
 refine GC.out.mono ?_
 rintro e x1 ⟨rfl, hb⟩
 have HB : Hid (Below V w x1) := xh (by rw [HV.out]; exact hb)
 clear hb GC
 by_cases hr : rc = 0
 rotate_left
 ·obtain rfl := HF1.out hr
  have HKE := xh (HKN.out hr)
  have hrn : (rc != 0) = true := by simpa using hr
  clear hr HF2 HF3 HF4 HKY
  go_wp2
  go_step3
  refine ⟨_, rfl, ?_⟩
  go_wp2_with fail
  refine (GE.out _ HB.out).mono ?_
  rintro e x9 ⟨⟨v, rfl, hres⟩, hb⟩
  have HRES := xh hres
  replace HB := xh (HB.out.trans (hb.mono (by rw [HV.out]; exact HB.out.size)))
  clear hb hres
  go_wp2
  rw [Exit.noGoto_ret]
  go_ret3
  refine ⟨⟨none, 0, [], v, 0, rfl, ⟨OwnA.nil _ _, fun y h => by cases h⟩, rfl, ?_⟩, HB.out⟩
  rw [HKE.out]
  exact HRES.out
 have HF2' := xh (HF2.out hr)
 have HF3' := xh (HF3.out hr)
 have HF4' := xh (HF4.out hr)
 have hrn : (rc != 0) = false := by rw [hr]; rfl
 clear HF1 HF2 HF3 HF4 hr
 go_wp2_with fail
 go_loopw [4, 6, 17] (fun s4 s6 s17 wr => ∃ (k : Nat) (A0 : Option Addr) (c0 : Nat) (out O : List ActV), k ≤ l.length ∧ s4 = .slice A0 out.length c0 ∧ s6 = s6 ∧ s17 = .int .i64 (k : Int) ∧ Hid (OutS wr V A0 c0 out) ∧ Hid (out.map aKey = O.map aKey) ∧ Hid (out.length ≤ k) ∧ Hid (rbR ks O (l.drop k) = Q) ∧ Hid (Below V w wr)) (fun _ _ s17 _ => l.length - (intOf s17).toNat)
 case atStart => exact ⟨0, none, 0, [], [], Nat.zero_le _, rfl, rfl, rfl, xh ⟨OwnA.nil _ _, fun y h => by cases h⟩, xh rfl, xh (Nat.le_refl _), HQ, HB⟩
 case round =>
  clear HB HQ
  obtain ⟨k, A0, c0, out, O, hk, rfl, _, rfl, HO, HOK, HLE, HQ, HB⟩ := hrel
  by_cases hlt : k < l.length
  ·have hltI : (k : Int) < (l.length : Int) := by omega
   have hAw := HA.out _ HB.out
   obtain ⟨b, off, rfl, _⟩ := hAw.form (by omega)
   obtain ⟨z0, z1, z2, z3, z4, z5⟩ := hAw.at_ hlt
   have HCO := xh (hAw.2 _ (List.getElem_mem hlt))
   have HAB := xh (HG.out _ (List.getElem_mem hlt))
   have HQ2 : Hid (rbR ks O (l[k] :: l.drop (k + 1)) = Q) := xh (by rw [← List.drop_eq_getElem_cons hlt]; exact HQ.out)
   clear HQ hAw
   generalize l[k] = a at z0 z1 z2 z3 z4 z5 HCO HAB HQ2
   have GWa := xh (fun (X : World) (h : Below V w X) => GW.out a HAB.out.1.1.2.2.2.1 X h)
   have GGa := xh (fun (X : World) (h : Below V w X) => GG.out a.id X h)
   have HKA := xh (HKH.out a.id)
   obtain ⟨wy, HWY⟩ : ∃ q, Hid (rWhy a ks = q) := ⟨_, xh rfl⟩
   rw [HWY.out] at GWa
   have HST1 : Hid (wy ≠ 0 → Q = ([], wy)) := xh (fun h => by
    rw [← HQ2.out]
    have e := yy151 (a := a) (ks := ks) (by rw [HWY.out]; exact h)
    rw [yy135 (by rw [e, HWY.out]; exact h), e, HWY.out])
   have HLF : Hid (rbLeft a ks = doneB a.kind (getK0 ks a.id)) := xh (yy458 a ks)
   have HST2 : Hid (wy = 0 → rbLeft a ks = true → rbR ks O (l.drop (k + 1)) = Q) := xh (fun h1 h2 => by
    rw [← HQ2.out]
    have e := yy107 (a := a) (ks := ks) (by rw [HWY.out]; exact h1) h2
    rw [rbR_go (by rw [e]), e]
    simp)
   have HST3 : Hid (wy = 0 → rbLeft a ks = false → (passF a (getK0 ks a.id)).2 ≠ 0 → Q = ([], ((passF a (getK0 ks a.id)).2 : Int))) := xh (fun h1 h2 h3 => by
    rw [← HQ2.out]
    have e := yy285 (a := a) (ks := ks) (by rw [HWY.out]; exact h1) h2 h3
    rw [yy135 (by rw [e]; show ((passF a (getK0 ks a.id)).2 : Int) ≠ 0; omega), e])
   have HST4 : Hid (wy = 0 → rbLeft a ks = false → (passF a (getK0 ks a.id)).2 = 0 → rbR ks (O ++ [{ a with ops := (passF a (getK0 ks a.id)).1 }]) (l.drop (k + 1)) = Q) := xh (fun h1 h2 h3 => by
    rw [← HQ2.out]
    have e := yy519 (a := a) (ks := ks) (by rw [HWY.out]; exact h1) h2 h3
    rw [rbR_go (by rw [e]), e]
    rfl)
   have GD := xh (fun (y : OneV) X => yy691 a y X)
   have GP := xh (fun (y : OneV) (hy : y.Good) (hyk : y.k = getK0 ks a.id) (X : World) (hX : Below wr.heap.size wr X) (hyc : yy8 X y.opsA y.k.ops) => yy529 a y HAB.out.1.2.1 HAB.out.1.2.2 (by rw [hyk]; exact HKA.out.1) X ⟨HCO.out.below hX, HAB.out.1.1.2.2.2.2.2.1⟩ ⟨hyc, hy.2.2.2.2.1⟩)
   have HPT := xh (yy518 a (getK0 ks a.id))
   clear HWY HQ2 HKA
   rw [HLF.out] at HST2 HST3 HST4
   clear HLF HCO
   obtain ⟨y0, HY0⟩ : ∃ y, Hid (getK0 ks a.id = y) := ⟨_, xh rfl⟩
   rw [HY0.out] at HST2 HST3 HST4 GP HPT
   obtain ⟨ak, ai, ap, an, ad, aA, aC, ao⟩ := a
   simp only at z0 z1 z2 z3 z4 z5 HAB HST2 HST3 HST4 GGa GD GP HPT HY0
   unfold yy0 at GWa GD GP
   simp only at GWa GD GP
   obtain ⟨gb, hgb⟩ : ∃ x, x = wr.heap.size := ⟨_, rfl⟩
   have HRG := xh (yy53 wr 26 (.int .i64 ak) (.int .i64 ai) (.int .i64 ap) (.string (bstr an)) (.bool ad) (.slice aA ao.length aC))
   have HBG : Hid (Below wr.heap.size wr (wr.alloc (.cells #[.int .i64 ak, .int .i64 ai, .int .i64 ap, .string (bstr an), .bool ad, .slice aA ao.length aC] 26))) := xh ((Below.refl _ _).alloc (Nat.le_refl _) _)
   rw [← hgb] at HRG
   have HGB := xh hgb
   have HVB : Hid (V ≤ wr.heap.size) := xh (by rw [HV.out]; exact HB.out.size)
   clear hgb
   go_upto_region 6 with fail
   rw [← HGB.out]
   obtain ⟨X1, HX1⟩ : ∃ x, Hid (wr.alloc (.cells #[.int .i64 ak, .int .i64 ai, .int .i64 ap, .string (bstr an), .bool ad, .slice aA ao.length aC] 26) = x) := ⟨_, xh rfl⟩
   rw [HX1.out] at HRG HBG ⊢
   clear HX1 z0 z1 z2 z3 z4 z5
   obtain ⟨y0', y1, y2, y3, y4, y5⟩ := yy10 HRG.out
   go_wp2_with fail
   refine (GWa.out _ (HB.out.trans (HBG.out.mono HVB.out))).mono ?_
   rintro e x2 ⟨rfl, hb⟩
   replace HRG := xh (HRG.out.of_block (hb.block _ HRG.out.lt))
   replace HBG : Hid (Below wr.heap.size wr x2) := xh (HBG.out.trans (hb.mono HBG.out.size))
   clear hb y0' y1 y2 y3 y4 y5 GWa
   by_cases hw : wy = 0
   rotate_left
   ·obtain rfl := HST1.out hw
    obtain rfl := HF2'.out hw
    have HKE := xh (HKN.out hw)
    have hwn : (wy != 0) = true := by simpa using hw
    have HB0 : Hid (Below V w x2) := xh (HB.out.trans (HBG.out.mono HVB.out))
    clear HB hw HF3' HF4' HKY HST1 HST2 HST3 HST4
    have HB := HB0
    go_wp2
    go_step3
    refine ⟨_, rfl, ?_⟩
    go_wp2_with fail
    refine (GE.out _ HB.out).mono ?_
    rintro e x9 ⟨⟨v, rfl, hres⟩, hb⟩
    have HRES := xh hres
    replace HB := xh (HB.out.trans (hb.mono (by rw [HV.out]; exact HB.out.size)))
    clear hb hres
    go_wp2
    rw [Exit.noGoto_ret]
    go_ret3
    refine ⟨⟨none, 0, [], v, 0, rfl, ⟨OwnA.nil _ _, fun y h => by cases h⟩, rfl, ?_⟩, HB.out⟩
    rw [HKE.out]
    exact HRES.out
   have HS2 := xh (HST2.out hw)
   have HS3 := xh (HST3.out hw)
   have HS4 := xh (HST4.out hw)
   have hwn : (wy != 0) = false := by rw [hw]; rfl
   clear HST1 HST2 HST3 HST4 hw
   obtain ⟨y0', y1, y2, y3, y4, y5⟩ := yy10 HRG.out
   clear y0' y2 y3 y4 y5
   go_wp2_with fail
   refine (GGa.out _ (HB.out.trans (HBG.out.mono HVB.out))).mono ?_
   rintro e x3 ⟨hgr, hb⟩
   obtain ⟨x, bq, rfl, hxc, hxg, hxk⟩ := yy361 hgr
   rw [HY0.out] at hxk
   subst hxk
   replace HRG := xh (HRG.out.of_block (hb.block _ HRG.out.lt))
   replace HBG : Hid (Below wr.heap.size wr x3) := xh (HBG.out.trans (hb.mono HBG.out.size))
   have GDx := xh (fun X => GD.out x X)
   have GPx := xh (fun (X : World) (h1 : Below wr.heap.size wr X) (h2 : yy8 X x.opsA x.k.ops) => GP.out x hxg rfl X h1 h2)
   clear hb hgr y1 GGa GD GP HY0 hxg
   obtain ⟨lf, HLF⟩ : ∃ b, Hid (doneB ak x.k = b) := ⟨_, xh rfl⟩
   rw [HLF.out] at GDx HS2 HS3 HS4
   obtain ⟨pq, HPQ⟩ : ∃ r, Hid (passF ⟨ak, ai, ap, an, ad, aA, aC, ao⟩ x.k = r) := ⟨_, xh rfl⟩
   rw [HPQ.out] at HS3 HS4 GPx HPT
   obtain ⟨P, q⟩ := pq
   clear HLF HPQ
   obtain ⟨⟨xi, xo, xe, xr, xc, xm, xp, xn⟩, xA, xC⟩ := x
   unfold yy5 at GDx GPx
   unfold yy5
   simp only at hxc GDx GPx HS3 HS4 HPT ⊢
   obtain ⟨gx, hgx⟩ : ∃ g, g = x3.heap.size := ⟨_, rfl⟩
   have HRX := xh (yy24 x3 63 (.int .i64 xi) (.slice xA xo.length xC) (.bool xe) (.bool xr) (.bool xc) (.bool xm) (.int .i64 xp) (.string (bstr xn)))
   rw [← hgx] at HRX
   have hbx : Below x3.heap.size x3 (x3.alloc (.cells #[.int .i64 xi, .slice xA xo.length xC, .bool xe, .bool xr, .bool xc, .bool xm, .int .i64 xp, .string (bstr xn)] 63)) := (Below.refl _ _).alloc (Nat.le_refl _) _
   replace HRG := xh (HRG.out.alloc (Obj.cells #[.int .i64 xi, .slice xA xo.length xC, .bool xe, .bool xr, .bool xc, .bool xm, .int .i64 xp, .string (bstr xn)] 63))
   replace HBG : Hid (Below wr.heap.size wr (x3.alloc (.cells #[.int .i64 xi, .slice xA xo.length xC, .bool xe, .bool xr, .bool xc, .bool xm, .int .i64 xp, .string (bstr xn)] 63))) := xh (HBG.out.trans (hbx.mono HBG.out.size))
   have HXC := xh (hxc.below hbx)
   have HGX := xh hgx
   clear hgx hbx hxc
   go_upto_region 9 with fail
   rw [← HGX.out]
   obtain ⟨X4, HX4⟩ : ∃ y, Hid (x3.alloc (.cells #[.int .i64 xi, .slice xA xo.length xC, .bool xe, .bool xr, .bool xc, .bool xm, .int .i64 xp, .string (bstr xn)] 63) = y) := ⟨_, xh rfl⟩
   rw [HX4.out] at HRX HRG HBG HXC ⊢
   clear HX4 HGX
   obtain ⟨y0', y1, y2, y3, y4, y5⟩ := yy10 HRG.out
   obtain ⟨u0, u1, u2, u3, u4, u5, u6, u7⟩ := yy9 HRX.out
   go_wp2_with fail
   refine (GDx.out _).mono ?_
   rintro e x5 ⟨rfl, hb⟩
   replace HRG := xh (HRG.out.of_block (hb.block _ HRG.out.lt))
   replace HRX := xh (HRX.out.of_block (hb.block _ HRX.out.lt))
   replace HXC := xh (HXC.out.below hb)
   replace HBG : Hid (Below wr.heap.size wr x5) := xh (HBG.out.trans (hb.mono HBG.out.size))
   clear hb y0' y1 y2 y3 y4 y5 u0 u1 u2 u3 u4 u5 u6 u7 GDx
   cases lf with
   | true =>
    have HQN := xh (HS2.out (by trivial))
    have HB2 : Hid (Below V w x5) := xh (HB.out.trans (HBG.out.mono HVB.out))
    have HO2 := xh (HO.out.below HBG.out)
    clear HS2 HS3 HS4 GPx
    go_wp2
    go_roundw
    case rel => exact ⟨k + 1, A0, c0, out, O, by omega, rfl, trivial, by go_num, HO2, HOK, xh (by have := HLE.out; omega), HQN, HB2⟩
    case measure => simp [intOf]; omega
   | false =>
    obtain ⟨y0', y1, y2, y3, y4, y5⟩ := yy10 HRG.out
    obtain ⟨u0, u1, u2, u3, u4, u5, u6, u7⟩ := yy9 HRX.out
    go_wp2_with fail
    refine (GPx.out x5 HBG.out HXC.out).mono ?_
    rintro e x6 ⟨A2, c2, rfl, hp1, hp2, hp3, hp4, hb⟩
    have HVX : Hid (V ≤ x5.heap.size) := xh (Nat.le_trans HVB.out HBG.out.size)
    have HGX5 : Hid (gb < x5.heap.size) := xh HRG.out.lt
    replace HRG := xh (HRG.out.of_block (hb.block _ HRG.out.lt))
    replace HBG : Hid (Below wr.heap.size wr x6) := xh (HBG.out.trans (hb.mono HBG.out.size))
    clear hb y0' y1 y2 y3 y4 y5 u0 u1 u2 u3 u4 u5 u6 u7 GPx HRX HXC
    have HY : Hid (ActB ⟨ak, ai, ap, an, ad, A2, c2, P⟩) := xh ⟨⟨⟨HAB.out.1.1.1, HAB.out.1.1.2.1, HAB.out.1.1.2.2.1, HAB.out.1.1.2.2.2.1, hp3.good, hp1, hp2⟩, hp3, HAB.out.1.2.2⟩, HAB.out.2.1, Nat.le_trans HPT.out HAB.out.2.2⟩
    obtain ⟨⟨a0, f0⟩, ⟨a1, f1⟩, ⟨a2, f2⟩, ⟨a3, f3⟩, ⟨a4, f4⟩, ⟨a5, f5⟩, hres⟩ := yy505 HRG.out (.int .i64 ak) (.int .i64 ai) (.int .i64 ap) (.string (bstr an)) (.bool ad) (.slice A2 P.length c2)
    have HRN : Hid (World.rowIs (((((((x6.setCell ⟨gb, 0, none⟩ (.int .i64 ak)).setCell ⟨gb, 1, none⟩ (.int .i64 ai)).setCell ⟨gb, 2, none⟩ (.int .i64 ap)).setCell ⟨gb, 3, none⟩ (.string (bstr an))).setCell ⟨gb, 4, none⟩ (.bool ad)).setCell ⟨gb, 5, none⟩ (.slice A2 P.length c2))) gb 26 6 (sixV (.int .i64 ak) (.int .i64 ai) (.int .i64 ap) (.string (bstr an)) (.bool ad) (.slice A2 P.length c2))) := xh hres
    have HBN : Hid (Below wr.heap.size wr (((((((x6.setCell ⟨gb, 0, none⟩ (.int .i64 ak)).setCell ⟨gb, 1, none⟩ (.int .i64 ai)).setCell ⟨gb, 2, none⟩ (.int .i64 ap)).setCell ⟨gb, 3, none⟩ (.string (bstr an))).setCell ⟨gb, 4, none⟩ (.bool ad)).setCell ⟨gb, 5, none⟩ (.slice A2 P.length c2)))) := xh (yy279 HBG.out (by rw [HGB.out]; exact Nat.le_refl _) _ _ _ _ _ _)
    have HPN : Hid (World.ownsRow (((((((x6.setCell ⟨gb, 0, none⟩ (.int .i64 ak)).setCell ⟨gb, 1, none⟩ (.int .i64 ai)).setCell ⟨gb, 2, none⟩ (.int .i64 ap)).setCell ⟨gb, 3, none⟩ (.string (bstr an))).setCell ⟨gb, 4, none⟩ (.bool ad)).setCell ⟨gb, 5, none⟩ (.slice A2 P.length c2))) V 60 3 (.slice A2 P.length c2) P.length (P.flatMap yy2)) := xh (yy36 (yy506 hp4 HGX5.out _ _ _ _ _ _) HVX.out)
    clear hres hp1 hp2 hp3 hp4 HRG HBG
    go_upto_region 11 with fail
    obtain ⟨x7, HX7⟩ : ∃ y, Hid (((((((x6.setCell ⟨gb, 0, none⟩ (.int .i64 ak)).setCell ⟨gb, 1, none⟩ (.int .i64 ai)).setCell ⟨gb, 2, none⟩ (.int .i64 ap)).setCell ⟨gb, 3, none⟩ (.string (bstr an))).setCell ⟨gb, 4, none⟩ (.bool ad)).setCell ⟨gb, 5, none⟩ (.slice A2 P.length c2)) = y) := ⟨_, xh rfl⟩
    rw [HX7.out] at HRN HBN HPN ⊢
    clear HX7 a0 f0 a1 f1 a2 f2 a3 f3 a4 f4 a5 f5
    have HB2 : Hid (Below V w x7) := xh (HB.out.trans (HBN.out.mono HVB.out))
    by_cases hq : q = 0
    rotate_left
    ·obtain rfl := HS3.out (by trivial) hq
     obtain rfl := HF2'.out (by show ((q : Nat) : Int) ≠ 0; omega)
     have HKE := xh (HKN.out (by show ((q : Nat) : Int) ≠ 0; omega))
     have hqn : ((q : Int) != 0) = true := bne_iff_ne.2 (by omega)
     clear HB hq HF3' HF4' HKY HS2 HS3 HS4
     have HB := HB2
     go_wp2
     go_step3
     refine ⟨_, rfl, ?_⟩
     go_wp2_with fail
     refine (GE.out _ HB.out).mono ?_
     rintro e x9 ⟨⟨v, rfl, hres⟩, hb⟩
     have HRES := xh hres
     replace HB := xh (HB.out.trans (hb.mono (by rw [HV.out]; exact HB.out.size)))
     clear hb hres
     go_wp2
     rw [Exit.noGoto_ret]
     go_ret3
     refine ⟨⟨none, 0, [], v, 0, rfl, ⟨OwnA.nil _ _, fun y h => by cases h⟩, rfl, ?_⟩, HB.out⟩
     rw [HKE.out]
     exact HRES.out
    have HQN := xh (HS4.out (by trivial) hq)
    have hqn : ((q : Int) != 0) = false := by rw [hq]; rfl
    clear hq HS2 HS3 HS4 HB
    have HO2 := xh (HO.out.below HBN.out)
    obtain ⟨y0', y1, y2, y3, y4, y5⟩ := yy10 HRN.out
    have HBL := xh ((Below.refl x7.heap.size x7).alloc (Nat.le_refl _) (Obj.cells (yy0 ⟨ak, ai, ap, an, ad, A2, c2, P⟩).toArray 26))
    have hll : out.length ≤ 1048576 := by have := HLE.out; omega
    go_wp2_with (at_builtin
                 go_loud (refine yy49 rfl (.tmp 44) (.tmp 46) rfl (B := V) (out := out) (m := [⟨ak, ai, ap, an, ad, A2, c2, P⟩]) (HO2.out.own.below HBL.out) (Nat.le_trans (Nat.le_trans HVB.out HBN.out.size) HBL.out.size) 1 (yy229 x7 ⟨ak, ai, ap, an, ad, A2, c2, P⟩ _ rfl) (by simp; omega) rfl rfl ?_)
                 intro A7 c7 w7 hown hbel hkeep
                 have HO7 : Hid (OutS w7 V A7 c7 (out ++ [⟨ak, ai, ap, an, ad, A2, c2, P⟩])) := xh ⟨hown, fun z hz => by
                  rcases List.mem_append.1 hz with hz | hz
                  ·exact ⟨(HO2.out.made z hz).1, hkeep _ _ _ _ _ (own_below (HO2.out.made z hz).2 HBL.out)⟩
                  ·rw [List.mem_singleton.1 hz]; exact ⟨HY.out, hkeep _ _ _ _ _ (own_below HPN.out HBL.out)⟩⟩
                 have HB7 : Hid (Below V w w7) := xh ((HB2.out.trans (HBL.out.mono (Nat.le_trans HVB.out HBN.out.size))).trans hbel)
                 clear hown hbel hkeep)
    go_roundw
    case rel => exact ⟨k + 1, A7, c7, _, O ++ [⟨ak, ai, ap, an, ad, aA, aC, P⟩], by omega, by rw [List.length_append]; rfl, trivial, by go_num, HO7, xh (by rw [List.map_append, List.map_append, HOK.out]; rfl), xh (by rw [List.length_append]; simp; exact HLE.out), HQN, HB7⟩
    case measure => simp [intOf]; omega
  ·obtain rfl : k = l.length := by omega
   have hltI : ¬ (l.length : Int) < (l.length : Int) := by omega
   have e : (O, (0 : Int)) = Q := by
    have := HQ.out
    rw [List.drop_length, rbR] at this
    exact this
   subst e
   clear HQ
   have GCx := xh (GCO.out wr A0 c0 out HO.out)
   have hkq := yy284 HOK.out
   rw [hkq] at GCx
   clear hkq GCO
   obtain ⟨rq, HRQ⟩ : ∃ r, Hid (rChk O = r) := ⟨_, xh rfl⟩
   simp only at HF3' HF4'
   rw [HRQ.out] at GCx HF3' HF4'
   go_wp2_with fail
   refine (GCx.out).mono ?_
   rintro e x2 ⟨rfl, hb⟩
   have HB0 : Hid (Below V w x2) := xh (HB.out.trans (hb.mono (by rw [HV.out]; exact HB.out.size)))
   have HO2 := xh (HO.out.below hb)
   clear hb GCx HB HO
   have HB := HB0
   clear HB0
   by_cases hrq : rq = 0
   rotate_left
   ·obtain rfl := HF3'.out (by trivial) hrq
    have HKE := xh (HKN.out hrq)
    have hrn2 : (rq != 0) = true := by simpa using hrq
    clear hrq HF2' HF4' HKY
    go_wp2
    go_step3
    refine ⟨_, rfl, ?_⟩
    go_wp2_with fail
    refine (GE.out _ HB.out).mono ?_
    rintro e x9 ⟨⟨v, rfl, hres⟩, hb⟩
    have HRES := xh hres
    replace HB := xh (HB.out.trans (hb.mono (by rw [HV.out]; exact HB.out.size)))
    clear hb hres
    go_wp2
    rw [Exit.noGoto_ret]
    go_ret3
    refine ⟨⟨none, 0, [], v, 0, rfl, ⟨OwnA.nil _ _, fun y h => by cases h⟩, rfl, ?_⟩, HB.out⟩
    rw [HKE.out]
    exact HRES.out
   obtain rfl := HF4'.out (by trivial) hrq
   have HKE := xh (HKY.out (by trivial))
   have hrn2 : (rq != 0) = false := by rw [hrq]; rfl
   clear hrq HF2' HF3' HKY
   go_wp2_with fail
   refine (GL.out _ HB.out).mono ?_
   rintro e x9 ⟨⟨v, rfl, hres⟩, hb⟩
   have HRES := xh hres
   replace HB := xh (HB.out.trans (hb.mono (by rw [HV.out]; exact HB.out.size)))
   have HO3 := xh (HO2.out.below hb)
   clear hb hres
   go_wp2
   rw [yy739]
   go_ret3
   refine ⟨⟨A0, c0, out, v, V, rfl, HO3.out, HOK.out, ?_⟩, HB.out⟩
   rw [HKE.out]
   exact HRES.out
end Go.Proofs.YtjpjdkdbgjipnaaGreatDoor
