/- What the document fixes of a transaction behind another one, asked by the statements' own awake: it answers true; what was there stays as it was. Condition: the table of conflicts holds what the program's text lays. (Merged of 3 texts.) -/
import Derived.Test.YtjpjdkdbgjipnaaDoorV39
import Derived.Test.YtjpjdkdbgjipnaaDoorV26
import Derived.Test.YtjpjdkdbgjipnaaDoorV21
import Derived.Test.YtjpjdkdbgjipnaaDoorV27
import Derived.Test.YtjpjdkdbgjipnaaDoorV37
import Derived.Test.YtjpjdkdbgjipnaaDoorV25
import Derived.Test.YtjpjdkdbgjipnaaDoorV44
import Derived.Test.YtjpjdkdbgjipnaaDoorV45
import Derived.BigQuiet
namespace Go.Proofs.YtjpjdkdbgjipnaaDoor
open Go.RowKit Go.Deep
def MadeA (w : World) (V : Nat) (y : ActV) : Prop := ActB y ∧ w.ownsRow V 51 3 (.slice y.opsA y.ops.length y.opsC) y.ops.length (y.ops.flatMap yy2)
structure OutS (w : World) (V : Nat) (A : Option Addr) (c : Nat) (l : List ActV) : Prop where
 own : OwnA w V A c l
 made : ∀ y ∈ l, MadeA w V y
theorem OutS.below {w w' : World} {V c : Nat} {A : Option Addr} {l : List ActV} (h : OutS w V A c l) (hb : Below w.heap.size w w') : OutS w' V A c l := ⟨h.own.below hb, fun y hy => ⟨(h.made y hy).1, own_below (h.made y hy).2 hb⟩⟩
theorem OutS.acts {w : World} {V c : Nat} {A : Option Addr} {l : List ActV} (h : OutS w V A c l) : ActsAt w A l := ⟨h.own.at_, fun y hy => yy4.of_own (h.made y hy).2⟩
def yy751 (w' : World) (R : List ActV × Int) (K : List OneK) (e : Ending) : Prop :=
 ∃ A' c' out v V, e = .returned (.tuple #[.slice A' (List.length out) c', v, .int .i64 R.2]) ∧ OutS w' V A' c' out ∧ out.map aKey = R.1.map aKey ∧ EffRes w' v K
theorem yy601 {l : List ActV} {ks : List OneK} (h : rChk l ≠ 0) : rRb l ks = ([], rChk l) := by unfold rRb; rw [if_pos h]
theorem yy704 {l : List ActV} {ks : List OneK} (h : rChk l = 0) (h2 : (rbR ks [] l).2 ≠ 0) : rRb l ks = ([], (rbR ks [] l).2) := by unfold rRb; rw [if_neg (fun e => e h), if_pos h2]
theorem yy705 {l : List ActV} {ks : List OneK} (h : rChk l = 0) (h2 : (rbR ks [] l).2 = 0) (h3 : rChk (rbR ks [] l).1 ≠ 0) : rRb l ks = ([], rChk (rbR ks [] l).1) := by unfold rRb; rw [if_neg (fun e => e h), if_neg (fun e => e h2), if_pos h3]
theorem yy706 {l : List ActV} {ks : List OneK} (h : rChk l = 0) (h2 : (rbR ks [] l).2 = 0) (h3 : rChk (rbR ks [] l).1 = 0) : rRb l ks = ((rbR ks [] l).1, 0) := by unfold rRb; rw [if_neg (fun e => e h), if_neg (fun e => e h2), if_neg (fun e => e h3)]
theorem yy535 {l : List ActV} {ks : List OneK} (h : (rRb l ks).2 ≠ 0) : yy290 l ks = ks := if_pos h
theorem yy453 {l : List ActV} {ks : List OneK} (h : (rRb l ks).2 = 0) : yy290 l ks = overK ks l := if_neg (fun e => e h)
set_option maxHeartbeats 16000000 in
set_option maxRecDepth 100000 in
theorem yy304 (A : Option Addr) (c : Nat) (l : List ActV) (hl : l.length ≤ 1048576) (hcap : l.length ≤ c) (hg : ∀ a ∈ l, ActB a) (B : Option Addr) (d : Nat) (bs : List OneV) (hbl : bs.length ≤ 1048576) (hbd : bs.length ≤ d) (hbg : ∀ y ∈ bs, y.Good ∧ KeyH y.k) (w : World) (hA : ActsAt w A l) (hB : OnesAt w B bs) (hC : ConfAt w) :
  Calls Tryd.prog 15 #[.slice A l.length c, .slice B bs.length d] w fun e w' => yy751 w' (rRb l (bs.map (·.k))) (yy290 l (bs.map (·.k))) e ∧ Below w.heap.size w w' := by
 obtain ⟨V, hV⟩ : ∃ V, V = w.heap.size := ⟨_, rfl⟩
 have GC := xh (yy205 A c l (by unfold maxLen; omega) hcap (fun a ha => (hg a ha).ok) w hA)
 have GCO := xh (fun (X : World) (A' : Option Addr) (c' : Nat) (out : List ActV) (h : OutS X V A' c' out) => yy205 A' c' out (yy721 h.own) h.own.cap (fun a ha => (h.made a ha).1.ok) X h.acts)
 have GE := xh (fun (X : World) (h : Below w.heap.size w X) => yy226 B d bs hbl hbd hbg none 0 [] (by simp) (by simp) (fun a ha => by cases ha) X (hB.below h) ⟨.inl rfl, fun a ha => by cases ha⟩)
 have GL := xh (fun (X : World) (h : Below w.heap.size w X) => yy226 B d bs hbl hbd hbg A c l hl hcap (fun a ha => (hg a ha).1) X (hB.below h) (hA.below h))
 have GW := xh (fun (a : ActV) (hn : Bytes a.name) (X : World) (h : Below w.heap.size w X) => yy634 B d bs a hbl hbg hn X (hB.below h) (hC.below h))
 have GG := xh (fun (id : Int) (X : World) (h : Below w.heap.size w X) => yy293 B d bs id hbl hbg X (hB.below h))
 have HKH : Hid (∀ id, KeyH (getK0 (bs.map (·.k)) id)) := xh (fun id => by
  unfold getK0
  cases hf : (bs.map (·.k)).find? (fun k => decide (k.id = id)) with
  | none => exact ⟨yy152, Nat.zero_le _⟩
  | some k =>
   obtain ⟨y, hy, rfl⟩ := List.mem_map.1 (List.mem_of_find?_eq_some hf)
   exact (hbg y hy).2)
 simp only [yy562, List.length_nil] at GE
 generalize bs.map (·.k) = ks at GE GL GW GG HKH ⊢
 obtain ⟨R, HR⟩ : ∃ R, Hid (rRb l ks = R) := ⟨_, xh rfl⟩
 obtain ⟨K, HK⟩ : ∃ K, Hid (yy290 l ks = K) := ⟨_, xh rfl⟩
 rw [HR.out, HK.out]
 have HKN : Hid (R.2 ≠ 0 → K = ks) := xh (fun h => by rw [← HK.out]; exact yy535 (by rw [HR.out]; exact h))
 have HKY : Hid (R.2 = 0 → K = overK ks l) := xh (fun h => by rw [← HK.out]; exact yy453 (by rw [HR.out]; exact h))
 have HF1 : Hid (rChk l ≠ 0 → R = ([], rChk l)) := xh (fun h => by rw [← HR.out]; exact yy601 h)
 obtain ⟨Q, HQ⟩ : ∃ Q, Hid (rbR ks [] l = Q) := ⟨_, xh rfl⟩
 have HF2 : Hid (rChk l = 0 → Q.2 ≠ 0 → R = ([], Q.2)) := xh (fun h1 h => by rw [← HQ.out] at h ⊢; rw [← HR.out]; exact yy704 h1 h)
 have HF3 : Hid (rChk l = 0 → Q.2 = 0 → rChk Q.1 ≠ 0 → R = ([], rChk Q.1)) := xh (fun h1 h2 h => by rw [← HQ.out] at h2 h ⊢; rw [← HR.out]; exact yy705 h1 h2 h)
 have HF4 : Hid (rChk l = 0 → Q.2 = 0 → rChk Q.1 = 0 → R = (Q.1, 0)) := xh (fun h1 h2 h => by rw [← HQ.out] at h2 h ⊢; rw [← HR.out]; exact yy706 h1 h2 h)
 have HA := xh (fun (X : World) (h : Below w.heap.size w X) => hA.below h)
 have HG := xh hg
 clear hA hB hC hg hbg HR HK hcap hbd
 rw [← hV] at GE GL GW GG HA ⊢
 have HV := xh hV
 clear hV
 obtain ⟨rc, HRC⟩ : ∃ r, Hid (rChk l = r) := ⟨_, xh rfl⟩
 rw [HRC.out] at GC HF1 HF2 HF3 HF4
 go_enter Tryd.func15, Tryd.ntmps15
 go_wp2
 refine yy335 ?_
 go_wp2_with fail
 refine GC.out.mono ?_
 rintro e x1 ⟨rfl, hb⟩
 have HB : Hid (Below V w x1) := xh (by rw [HV.out]; exact hb)
 clear hb GC
 by_cases hr : rc = 0
 rotate_left
 ·obtain rfl := HF1.out hr
  have HKE := xh (HKN.out hr)
  have hrn : (rc != 0) = true := by simpa using hr
  clear hr HF2 HF3 HF4 HKY
  go_wp2
  go_step3
  refine ⟨_, rfl, ?_⟩
  go_wp2_with fail
  refine (GE.out _ HB.out).mono ?_
  rintro e x9 ⟨⟨v, rfl, hres⟩, hb⟩
  have HRES := xh hres
  replace HB := xh (HB.out.trans (hb.mono (by rw [HV.out]; exact HB.out.size)))
  clear hb hres
  go_wp2
  rw [Exit.noGoto_ret]
  go_ret3
  refine ⟨⟨none, 0, [], v, 0, rfl, ⟨OwnA.nil _ _, fun y h => by cases h⟩, rfl, ?_⟩, HB.out⟩
  rw [HKE.out]
  exact HRES.out
 have HF2' := xh (HF2.out hr)
 have HF3' := xh (HF3.out hr)
 have HF4' := xh (HF4.out hr)
 have hrn : (rc != 0) = false := by rw [hr]; rfl
 clear HF1 HF2 HF3 HF4 hr
 go_wp2_with fail
 go_loopw [4, 6, 17] (fun s4 s6 s17 wr => ∃ (k : Nat) (A0 : Option Addr) (c0 : Nat) (out O : List ActV), k ≤ l.length ∧ s4 = .slice A0 out.length c0 ∧ s6 = s6 ∧ s17 = .int .i64 (k : Int) ∧ Hid (OutS wr V A0 c0 out) ∧ Hid (out.map aKey = O.map aKey) ∧ Hid (out.length ≤ k) ∧ Hid (rbR ks O (l.drop k) = Q) ∧ Hid (Below V w wr)) (fun _ _ s17 _ => l.length - (intOf s17).toNat)
 case atStart => exact ⟨0, none, 0, [], [], Nat.zero_le _, rfl, rfl, rfl, xh ⟨OwnA.nil _ _, fun y h => by cases h⟩, xh rfl, xh (Nat.le_refl _), HQ, HB⟩
 case round =>
  clear HB HQ
  obtain ⟨k, A0, c0, out, O, hk, rfl, _, rfl, HO, HOK, HLE, HQ, HB⟩ := hrel
  by_cases hlt : k < l.length
  ·have hltI : (k : Int) < (l.length : Int) := by omega
   have hAw := HA.out _ HB.out
   obtain ⟨b, off, rfl, _⟩ := hAw.form (by omega)
   obtain ⟨z0, z1, z2, z3, z4, z5⟩ := hAw.at_ hlt
   have HCO := xh (hAw.2 _ (List.getElem_mem hlt))
   have HAB := xh (HG.out _ (List.getElem_mem hlt))
   have HQ2 : Hid (rbR ks O (l[k] :: l.drop (k + 1)) = Q) := xh (by rw [← List.drop_eq_getElem_cons hlt]; exact HQ.out)
   clear HQ hAw
   generalize l[k] = a at z0 z1 z2 z3 z4 z5 HCO HAB HQ2
   have GWa := xh (fun (X : World) (h : Below V w X) => GW.out a HAB.out.1.1.2.2.2.1 X h)
   have GGa := xh (fun (X : World) (h : Below V w X) => GG.out a.id X h)
   have HKA := xh (HKH.out a.id)
   obtain ⟨wy, HWY⟩ : ∃ q, Hid (rWhy a ks = q) := ⟨_, xh rfl⟩
   rw [HWY.out] at GWa
   have HST1 : Hid (wy ≠ 0 → Q = ([], wy)) := xh (fun h => by
    rw [← HQ2.out]
    have e := yy177 (a := a) (ks := ks) (by rw [HWY.out]; exact h)
    rw [yy200 (by rw [e, HWY.out]; exact h), e, HWY.out])
   have HLF : Hid (rbLeft a ks = doneB a.kind (getK0 ks a.id)) := xh (yy435 a ks)
   have HST2 : Hid (wy = 0 → rbLeft a ks = true → rbR ks O (l.drop (k + 1)) = Q) := xh (fun h1 h2 => by
    rw [← HQ2.out]
    have e := yy138 (a := a) (ks := ks) (by rw [HWY.out]; exact h1) h2
    rw [rbR_go (by rw [e]), e]
    simp)
   have HST3 : Hid (wy = 0 → rbLeft a ks = false → (passF a (getK0 ks a.id)).2 ≠ 0 → Q = ([], ((passF a (getK0 ks a.id)).2 : Int))) := xh (fun h1 h2 h3 => by
    rw [← HQ2.out]
    have e := yy260 (a := a) (ks := ks) (by rw [HWY.out]; exact h1) h2 h3
    rw [yy200 (by rw [e]; show ((passF a (getK0 ks a.id)).2 : Int) ≠ 0; omega), e])
   have HST4 : Hid (wy = 0 → rbLeft a ks = false → (passF a (getK0 ks a.id)).2 = 0 → rbR ks (O ++ [{ a with ops := (passF a (getK0 ks a.id)).1 }]) (l.drop (k + 1)) = Q) := xh (fun h1 h2 h3 => by
    rw [← HQ2.out]
    have e := yy500 (a := a) (ks := ks) (by rw [HWY.out]; exact h1) h2 h3
    rw [rbR_go (by rw [e]), e]
    rfl)
   have GD := xh (fun (y : OneV) X => yy687 a y X)
   have GP := xh (fun (y : OneV) (hy : y.Good) (hyk : y.k = getK0 ks a.id) (X : World) (hX : Below wr.heap.size wr X) (hyc : yy6 X y.opsA y.k.ops) => yy508 a y HAB.out.1.2.1 HAB.out.1.2.2 (by rw [hyk]; exact HKA.out.1) X ⟨HCO.out.below hX, HAB.out.1.1.2.2.2.2.2.1⟩ ⟨hyc, hy.2.2.2.2.1⟩)
   have HPT := xh (yy499 a (getK0 ks a.id))
   clear HWY HQ2 HKA
   rw [HLF.out] at HST2 HST3 HST4
   clear HLF HCO
   obtain ⟨y0, HY0⟩ : ∃ y, Hid (getK0 ks a.id = y) := ⟨_, xh rfl⟩
   rw [HY0.out] at HST2 HST3 HST4 GP HPT
   obtain ⟨ak, ai, ap, an, ad, aA, aC, ao⟩ := a
   simp only at z0 z1 z2 z3 z4 z5 HAB HST2 HST3 HST4 GGa GD GP HPT HY0
   unfold yy0 at GWa GD GP
   simp only at GWa GD GP
   obtain ⟨gb, hgb⟩ : ∃ x, x = wr.heap.size := ⟨_, rfl⟩
   have HRG := xh (yy62 wr 46 (.int .i64 ak) (.int .i64 ai) (.int .i64 ap) (.string (bstr an)) (.bool ad) (.slice aA ao.length aC))
   have HBG : Hid (Below wr.heap.size wr (wr.alloc (.cells #[.int .i64 ak, .int .i64 ai, .int .i64 ap, .string (bstr an), .bool ad, .slice aA ao.length aC] 46))) := xh ((Below.refl _ _).alloc (Nat.le_refl _) _)
   rw [← hgb] at HRG
   have HGB := xh hgb
   have HVB : Hid (V ≤ wr.heap.size) := xh (by rw [HV.out]; exact HB.out.size)
   clear hgb
   go_upto_region 6 with fail
   rw [← HGB.out]
   obtain ⟨X1, HX1⟩ : ∃ x, Hid (wr.alloc (.cells #[.int .i64 ak, .int .i64 ai, .int .i64 ap, .string (bstr an), .bool ad, .slice aA ao.length aC] 46) = x) := ⟨_, xh rfl⟩
   rw [HX1.out] at HRG HBG ⊢
   clear HX1 z0 z1 z2 z3 z4 z5
   obtain ⟨y0', y1, y2, y3, y4, y5⟩ := yy11 HRG.out
   go_wp2_with fail
   refine (GWa.out _ (HB.out.trans (HBG.out.mono HVB.out))).mono ?_
   rintro e x2 ⟨rfl, hb⟩
   replace HRG := xh (HRG.out.of_block (hb.block _ HRG.out.lt))
   replace HBG : Hid (Below wr.heap.size wr x2) := xh (HBG.out.trans (hb.mono HBG.out.size))
   clear hb y0' y1 y2 y3 y4 y5 GWa
   by_cases hw : wy = 0
   rotate_left
   ·obtain rfl := HST1.out hw
    obtain rfl := HF2'.out hw
    have HKE := xh (HKN.out hw)
    have hwn : (wy != 0) = true := by simpa using hw
    have HB0 : Hid (Below V w x2) := xh (HB.out.trans (HBG.out.mono HVB.out))
    clear HB hw HF3' HF4' HKY HST1 HST2 HST3 HST4
    have HB := HB0
    go_wp2
    go_step3
    refine ⟨_, rfl, ?_⟩
    go_wp2_with fail
    refine (GE.out _ HB.out).mono ?_
    rintro e x9 ⟨⟨v, rfl, hres⟩, hb⟩
    have HRES := xh hres
    replace HB := xh (HB.out.trans (hb.mono (by rw [HV.out]; exact HB.out.size)))
    clear hb hres
    go_wp2
    rw [Exit.noGoto_ret]
    go_ret3
    refine ⟨⟨none, 0, [], v, 0, rfl, ⟨OwnA.nil _ _, fun y h => by cases h⟩, rfl, ?_⟩, HB.out⟩
    rw [HKE.out]
    exact HRES.out
   have HS2 := xh (HST2.out hw)
   have HS3 := xh (HST3.out hw)
   have HS4 := xh (HST4.out hw)
   have hwn : (wy != 0) = false := by rw [hw]; rfl
   clear HST1 HST2 HST3 HST4 hw
   obtain ⟨y0', y1, y2, y3, y4, y5⟩ := yy11 HRG.out
   clear y0' y2 y3 y4 y5
   go_wp2_with fail
   refine (GGa.out _ (HB.out.trans (HBG.out.mono HVB.out))).mono ?_
   rintro e x3 ⟨hgr, hb⟩
   obtain ⟨x, bq, rfl, hxc, hxg, hxk⟩ := yy337 hgr
   rw [HY0.out] at hxk
   subst hxk
   replace HRG := xh (HRG.out.of_block (hb.block _ HRG.out.lt))
   replace HBG : Hid (Below wr.heap.size wr x3) := xh (HBG.out.trans (hb.mono HBG.out.size))
   have GDx := xh (fun X => GD.out x X)
   have GPx := xh (fun (X : World) (h1 : Below wr.heap.size wr X) (h2 : yy6 X x.opsA x.k.ops) => GP.out x hxg rfl X h1 h2)
   clear hb hgr y1 GGa GD GP HY0 hxg
   obtain ⟨lf, HLF⟩ : ∃ b, Hid (doneB ak x.k = b) := ⟨_, xh rfl⟩
   rw [HLF.out] at GDx HS2 HS3 HS4
   obtain ⟨pq, HPQ⟩ : ∃ r, Hid (passF ⟨ak, ai, ap, an, ad, aA, aC, ao⟩ x.k = r) := ⟨_, xh rfl⟩
   rw [HPQ.out] at HS3 HS4 GPx HPT
   obtain ⟨P, q⟩ := pq
   clear HLF HPQ
   obtain ⟨⟨xi, xo, xe, xr, xc, xm, xp, xn⟩, xA, xC⟩ := x
   unfold yy8 at GDx GPx
   unfold yy8
   simp only at hxc GDx GPx HS3 HS4 HPT ⊢
   obtain ⟨gx, hgx⟩ : ∃ g, g = x3.heap.size := ⟨_, rfl⟩
   have HRX := xh (yy32 x3 48 (.int .i64 xi) (.slice xA xo.length xC) (.bool xe) (.bool xr) (.bool xc) (.bool xm) (.int .i64 xp) (.string (bstr xn)))
   rw [← hgx] at HRX
   have hbx : Below x3.heap.size x3 (x3.alloc (.cells #[.int .i64 xi, .slice xA xo.length xC, .bool xe, .bool xr, .bool xc, .bool xm, .int .i64 xp, .string (bstr xn)] 48)) := (Below.refl _ _).alloc (Nat.le_refl _) _
   replace HRG := xh (HRG.out.alloc (Obj.cells #[.int .i64 xi, .slice xA xo.length xC, .bool xe, .bool xr, .bool xc, .bool xm, .int .i64 xp, .string (bstr xn)] 48))
   replace HBG : Hid (Below wr.heap.size wr (x3.alloc (.cells #[.int .i64 xi, .slice xA xo.length xC, .bool xe, .bool xr, .bool xc, .bool xm, .int .i64 xp, .string (bstr xn)] 48))) := xh (HBG.out.trans (hbx.mono HBG.out.size))
   have HXC := xh (hxc.below hbx)
   have HGX := xh hgx
   clear hgx hbx hxc
   go_upto_region 9 with fail
   rw [← HGX.out]
   obtain ⟨X4, HX4⟩ : ∃ y, Hid (x3.alloc (.cells #[.int .i64 xi, .slice xA xo.length xC, .bool xe, .bool xr, .bool xc, .bool xm, .int .i64 xp, .string (bstr xn)] 48) = y) := ⟨_, xh rfl⟩
   rw [HX4.out] at HRX HRG HBG HXC ⊢
   clear HX4 HGX
   obtain ⟨y0', y1, y2, y3, y4, y5⟩ := yy11 HRG.out
   obtain ⟨u0, u1, u2, u3, u4, u5, u6, u7⟩ := yy10 HRX.out
   go_wp2_with fail
   refine (GDx.out _).mono ?_
   rintro e x5 ⟨rfl, hb⟩
   replace HRG := xh (HRG.out.of_block (hb.block _ HRG.out.lt))
   replace HRX := xh (HRX.out.of_block (hb.block _ HRX.out.lt))
   replace HXC := xh (HXC.out.below hb)
   replace HBG : Hid (Below wr.heap.size wr x5) := xh (HBG.out.trans (hb.mono HBG.out.size))
   clear hb y0' y1 y2 y3 y4 y5 u0 u1 u2 u3 u4 u5 u6 u7 GDx
   cases lf with
   | true =>
    have HQN := xh (HS2.out (by trivial))
    have HB2 : Hid (Below V w x5) := xh (HB.out.trans (HBG.out.mono HVB.out))
    have HO2 := xh (HO.out.below HBG.out)
    clear HS2 HS3 HS4 GPx
    go_wp2
    go_roundw
    case rel => exact ⟨k + 1, A0, c0, out, O, by omega, rfl, trivial, by go_num, HO2, HOK, xh (by have := HLE.out; omega), HQN, HB2⟩
    case measure => simp [intOf]; omega
   | false =>
    obtain ⟨y0', y1, y2, y3, y4, y5⟩ := yy11 HRG.out
    obtain ⟨u0, u1, u2, u3, u4, u5, u6, u7⟩ := yy10 HRX.out
    go_wp2_with fail
    refine (GPx.out x5 HBG.out HXC.out).mono ?_
    rintro e x6 ⟨A2, c2, rfl, hp1, hp2, hp3, hp4, hb⟩
    have HVX : Hid (V ≤ x5.heap.size) := xh (Nat.le_trans HVB.out HBG.out.size)
    have HGX5 : Hid (gb < x5.heap.size) := xh HRG.out.lt
    replace HRG := xh (HRG.out.of_block (hb.block _ HRG.out.lt))
    replace HBG : Hid (Below wr.heap.size wr x6) := xh (HBG.out.trans (hb.mono HBG.out.size))
    clear hb y0' y1 y2 y3 y4 y5 u0 u1 u2 u3 u4 u5 u6 u7 GPx HRX HXC
    have HY : Hid (ActB ⟨ak, ai, ap, an, ad, A2, c2, P⟩) := xh ⟨⟨⟨HAB.out.1.1.1, HAB.out.1.1.2.1, HAB.out.1.1.2.2.1, HAB.out.1.1.2.2.2.1, hp3.good, hp1, hp2⟩, hp3, HAB.out.1.2.2⟩, HAB.out.2.1, Nat.le_trans HPT.out HAB.out.2.2⟩
    obtain ⟨⟨a0, f0⟩, ⟨a1, f1⟩, ⟨a2, f2⟩, ⟨a3, f3⟩, ⟨a4, f4⟩, ⟨a5, f5⟩, hres⟩ := yy482 HRG.out (.int .i64 ak) (.int .i64 ai) (.int .i64 ap) (.string (bstr an)) (.bool ad) (.slice A2 P.length c2)
    have HRN : Hid (World.rowIs (((((((x6.setCell ⟨gb, 0, none⟩ (.int .i64 ak)).setCell ⟨gb, 1, none⟩ (.int .i64 ai)).setCell ⟨gb, 2, none⟩ (.int .i64 ap)).setCell ⟨gb, 3, none⟩ (.string (bstr an))).setCell ⟨gb, 4, none⟩ (.bool ad)).setCell ⟨gb, 5, none⟩ (.slice A2 P.length c2))) gb 46 6 (sixV (.int .i64 ak) (.int .i64 ai) (.int .i64 ap) (.string (bstr an)) (.bool ad) (.slice A2 P.length c2))) := xh hres
    have HBN : Hid (Below wr.heap.size wr (((((((x6.setCell ⟨gb, 0, none⟩ (.int .i64 ak)).setCell ⟨gb, 1, none⟩ (.int .i64 ai)).setCell ⟨gb, 2, none⟩ (.int .i64 ap)).setCell ⟨gb, 3, none⟩ (.string (bstr an))).setCell ⟨gb, 4, none⟩ (.bool ad)).setCell ⟨gb, 5, none⟩ (.slice A2 P.length c2)))) := xh (yy250 HBG.out (by rw [HGB.out]; exact Nat.le_refl _) _ _ _ _ _ _)
    have HPN : Hid (World.ownsRow (((((((x6.setCell ⟨gb, 0, none⟩ (.int .i64 ak)).setCell ⟨gb, 1, none⟩ (.int .i64 ai)).setCell ⟨gb, 2, none⟩ (.int .i64 ap)).setCell ⟨gb, 3, none⟩ (.string (bstr an))).setCell ⟨gb, 4, none⟩ (.bool ad)).setCell ⟨gb, 5, none⟩ (.slice A2 P.length c2))) V 51 3 (.slice A2 P.length c2) P.length (P.flatMap yy2)) := xh (yy34 (yy483 hp4 HGX5.out _ _ _ _ _ _) HVX.out)
    clear hres hp1 hp2 hp3 hp4 HRG HBG
    go_upto_region 11 with fail
    obtain ⟨x7, HX7⟩ : ∃ y, Hid (((((((x6.setCell ⟨gb, 0, none⟩ (.int .i64 ak)).setCell ⟨gb, 1, none⟩ (.int .i64 ai)).setCell ⟨gb, 2, none⟩ (.int .i64 ap)).setCell ⟨gb, 3, none⟩ (.string (bstr an))).setCell ⟨gb, 4, none⟩ (.bool ad)).setCell ⟨gb, 5, none⟩ (.slice A2 P.length c2)) = y) := ⟨_, xh rfl⟩
    rw [HX7.out] at HRN HBN HPN ⊢
    clear HX7 a0 f0 a1 f1 a2 f2 a3 f3 a4 f4 a5 f5
    have HB2 : Hid (Below V w x7) := xh (HB.out.trans (HBN.out.mono HVB.out))
    by_cases hq : q = 0
    rotate_left
    ·obtain rfl := HS3.out (by trivial) hq
     obtain rfl := HF2'.out (by show ((q : Nat) : Int) ≠ 0; omega)
     have HKE := xh (HKN.out (by show ((q : Nat) : Int) ≠ 0; omega))
     have hqn : ((q : Int) != 0) = true := bne_iff_ne.2 (by omega)
     clear HB hq HF3' HF4' HKY HS2 HS3 HS4
     have HB := HB2
     go_wp2
     go_step3
     refine ⟨_, rfl, ?_⟩
     go_wp2_with fail
     refine (GE.out _ HB.out).mono ?_
     rintro e x9 ⟨⟨v, rfl, hres⟩, hb⟩
     have HRES := xh hres
     replace HB := xh (HB.out.trans (hb.mono (by rw [HV.out]; exact HB.out.size)))
     clear hb hres
     go_wp2
     rw [Exit.noGoto_ret]
     go_ret3
     refine ⟨⟨none, 0, [], v, 0, rfl, ⟨OwnA.nil _ _, fun y h => by cases h⟩, rfl, ?_⟩, HB.out⟩
     rw [HKE.out]
     exact HRES.out
    have HQN := xh (HS4.out (by trivial) hq)
    have hqn : ((q : Int) != 0) = false := by rw [hq]; rfl
    clear hq HS2 HS3 HS4 HB
    have HO2 := xh (HO.out.below HBN.out)
    obtain ⟨y0', y1, y2, y3, y4, y5⟩ := yy11 HRN.out
    have HBL := xh ((Below.refl x7.heap.size x7).alloc (Nat.le_refl _) (Obj.cells (yy0 ⟨ak, ai, ap, an, ad, A2, c2, P⟩).toArray 46))
    have hll : out.length ≤ 1048576 := by have := HLE.out; omega
    go_wp2_with (at_builtin
                 go_loud (refine yy101 rfl (.tmp 44) (.tmp 46) rfl (B := V) (out := out) (m := [⟨ak, ai, ap, an, ad, A2, c2, P⟩]) (HO2.out.own.below HBL.out) (Nat.le_trans (Nat.le_trans HVB.out HBN.out.size) HBL.out.size) 1 (yy514 x7 ⟨ak, ai, ap, an, ad, A2, c2, P⟩ _ rfl) (by simp; omega) rfl rfl ?_)
                 intro A7 c7 w7 hown hbel hkeep
                 have HO7 : Hid (OutS w7 V A7 c7 (out ++ [⟨ak, ai, ap, an, ad, A2, c2, P⟩])) := xh ⟨hown, fun z hz => by
                  rcases List.mem_append.1 hz with hz | hz
                  ·exact ⟨(HO2.out.made z hz).1, hkeep _ _ _ _ _ (own_below (HO2.out.made z hz).2 HBL.out)⟩
                  ·rw [List.mem_singleton.1 hz]; exact ⟨HY.out, hkeep _ _ _ _ _ (own_below HPN.out HBL.out)⟩⟩
                 have HB7 : Hid (Below V w w7) := xh ((HB2.out.trans (HBL.out.mono (Nat.le_trans HVB.out HBN.out.size))).trans hbel)
                 clear hown hbel hkeep)
    go_roundw
    case rel => exact ⟨k + 1, A7, c7, _, O ++ [⟨ak, ai, ap, an, ad, aA, aC, P⟩], by omega, by rw [List.length_append]; rfl, trivial, by go_num, HO7, xh (by rw [List.map_append, List.map_append, HOK.out]; rfl), xh (by rw [List.length_append]; simp; exact HLE.out), HQN, HB7⟩
    case measure => simp [intOf]; omega
  ·obtain rfl : k = l.length := by omega
   have hltI : ¬ (l.length : Int) < (l.length : Int) := by omega
   have e : (O, (0 : Int)) = Q := by
    have := HQ.out
    rw [List.drop_length, rbR] at this
    exact this
   subst e
   clear HQ
   have GCx := xh (GCO.out wr A0 c0 out HO.out)
   have hkq := yy258 HOK.out
   rw [hkq] at GCx
   clear hkq GCO
   obtain ⟨rq, HRQ⟩ : ∃ r, Hid (rChk O = r) := ⟨_, xh rfl⟩
   simp only at HF3' HF4'
   rw [HRQ.out] at GCx HF3' HF4'
   go_wp2_with fail
   refine (GCx.out).mono ?_
   rintro e x2 ⟨rfl, hb⟩
   have HB0 : Hid (Below V w x2) := xh (HB.out.trans (hb.mono (by rw [HV.out]; exact HB.out.size)))
   have HO2 := xh (HO.out.below hb)
   clear hb GCx HB HO
   have HB := HB0
   clear HB0
   by_cases hrq : rq = 0
   rotate_left
   ·obtain rfl := HF3'.out (by trivial) hrq
    have HKE := xh (HKN.out hrq)
    have hrn2 : (rq != 0) = true := by simpa using hrq
    clear hrq HF2' HF4' HKY
    go_wp2
    go_step3
    refine ⟨_, rfl, ?_⟩
    go_wp2_with fail
    refine (GE.out _ HB.out).mono ?_
    rintro e x9 ⟨⟨v, rfl, hres⟩, hb⟩
    have HRES := xh hres
    replace HB := xh (HB.out.trans (hb.mono (by rw [HV.out]; exact HB.out.size)))
    clear hb hres
    go_wp2
    rw [Exit.noGoto_ret]
    go_ret3
    refine ⟨⟨none, 0, [], v, 0, rfl, ⟨OwnA.nil _ _, fun y h => by cases h⟩, rfl, ?_⟩, HB.out⟩
    rw [HKE.out]
    exact HRES.out
   obtain rfl := HF4'.out (by trivial) hrq
   have HKE := xh (HKY.out (by trivial))
   have hrn2 : (rq != 0) = false := by rw [hrq]; rfl
   clear hrq HF2' HF3' HKY
   go_wp2_with fail
   refine (GL.out _ HB.out).mono ?_
   rintro e x9 ⟨⟨v, rfl, hres⟩, hb⟩
   have HRES := xh hres
   replace HB := xh (HB.out.trans (hb.mono (by rw [HV.out]; exact HB.out.size)))
   have HO3 := xh (HO2.out.below hb)
   clear hb hres
   go_wp2
   rw [yy732]
   go_ret3
   refine ⟨⟨A0, c0, out, v, V, rfl, HO3.out, HOK.out, ?_⟩, HB.out⟩
   rw [HKE.out]
   exact HRES.out
def ComB (y : CommitV) : Prop := (∀ a ∈ y.acts, ActB a) ∧ y.acts.length ≤ 1048576 ∧ y.acts.length ≤ y.actsC
def yy602 (w' : World) (R : List ActV × Int) (e : Ending) : Prop :=
 ∃ A' c' out V, e = .returned (.tuple #[.slice A' (List.length out) c', .int .i64 R.2]) ∧ OutS w' V A' c' out ∧ out.map aKey = R.1.map aKey
theorem yy637 {l : List ActV} {ks : List OneK} (_h : (rRb l ks).2 = 0) : (rRb l ks).1.length ≤ 20 := by
 unfold rRb
 split
 ·exact Nat.zero_le _
 split
 ·exact Nat.zero_le _
 split
 ·exact Nat.zero_le _
 ·rename_i h3
  have h4 : rChk (rbR ks [] l).1 = 0 := by
   by_cases g : rChk (rbR ks [] l).1 = 0
   ·exact g
   ·exact absurd g h3
  show (rbR ks [] l).1.length ≤ 20
  by_cases g : 20 < (rbR ks [] l).1.length
  ·rw [yy333 g] at h4
   cases h4
  ·omega
theorem yy638 {l m : List ActV} (h : l.map aKey = m.map aKey) : l.length = m.length := by have := congrArg List.length h; simpa using this
theorem yy454 {L : List OneV} {acts : List ActV} (h : L.map (·.k) = eff acts) (hg : ∀ a ∈ acts, ActH a) (hy : ∀ y ∈ L, y.Good) : L.length ≤ acts.length ∧ ∀ y ∈ L, y.Good ∧ KeyH y.k := by
 have h1 : L.length = (eff acts).length := by rw [← h, List.length_map]
 have h2 := yy480 acts
 refine ⟨by rw [h1]; unfold eff; rw [List.length_map]; exact h2, fun y hy2 => ⟨hy y hy2, yy674 hg _ ?_⟩⟩
 rw [← h]
 exact List.mem_map.2 ⟨y, hy2, rfl⟩
set_option maxHeartbeats 16000000 in
set_option maxRecDepth 100000 in
theorem yy208 (A : Option Addr) (c : Nat) (l : List ActV) (hl : l.length ≤ 1048576) (hg : ∀ a ∈ l, ActB a) (C : Option Addr) (d : Nat) (cs : List CommitV) (hcl : cs.length ≤ 1048576) (hcg : ∀ y ∈ cs, ComB y) (w : World) (hA : ActsAt w A l) (hB : yy63 w C cs) (hC : ConfAt w) :
  Calls Tryd.prog 23 #[.slice A l.length c, .slice C cs.length d] w fun e w' => yy602 w' (yy24 l (cs.map (·.acts))) e ∧ Below w.heap.size w w' := by
 obtain ⟨R, HR⟩ : ∃ R, Hid (yy24 l (cs.map (·.acts)) = R) := ⟨_, xh rfl⟩
 rw [HR.out]
 obtain ⟨V, hV⟩ : ∃ V, V = w.heap.size := ⟨_, rfl⟩
 have HA := xh (fun (X : World) (h : Below w.heap.size w X) => hA.below h)
 have HM := xh (fun (X : World) (h : Below w.heap.size w X) => hB.below h)
 have HCF := xh (fun (X : World) (h : Below w.heap.size w X) => hC.below h)
 have HG := xh hg
 have HCG := xh hcg
 clear hA hB hC hg hcg
 rw [← hV] at HA HM HCF ⊢
 have HV := xh hV
 clear hV
 have HB : Hid (Below V w w) := xh (Below.refl _ _)
 go_enter Tryd.func23, Tryd.ntmps23
 go_wp2
 go_loopw [6, 14] (fun s6 s14 wr => ∃ (k : Nat) (A0 : Option Addr) (c0 : Nat) (out : List ActV), k ≤ l.length ∧ s6 = .slice A0 out.length c0 ∧ s14 = .int .i64 (k : Int) ∧ Hid (OutS wr V A0 c0 out) ∧ Hid (out.map aKey = (l.take k).map aKey) ∧ Hid (out.length = k) ∧ Hid (Below V w wr)) (fun _ s14 _ => l.length - (intOf s14).toNat)
 case atStart => exact ⟨0, none, 0, [], Nat.zero_le _, rfl, rfl, xh ⟨OwnA.nil _ _, fun y h => by cases h⟩, xh rfl, xh rfl, HB⟩
 case round =>
  clear HB
  obtain ⟨k, A0, c0, out, hk, rfl, rfl, HO, HOK, HLE, HB⟩ := hrel
  by_cases hlt : k < l.length
  ·have hltI : (k : Int) < (l.length : Int) := by omega
   have hAw := HA.out _ HB.out
   obtain ⟨b, off, rfl, _⟩ := hAw.form (by omega)
   obtain ⟨z0, z1, z2, z3, z4, z5⟩ := hAw.at_ hlt
   have HCO := xh (hAw.2 _ (List.getElem_mem hlt))
   have HAB := xh (HG.out _ (List.getElem_mem hlt))
   have HTK : Hid ((l.take (k + 1)).map aKey = (l.take k).map aKey ++ [aKey l[k]]) := xh (by rw [List.take_succ_eq_append_getElem hlt, List.map_append]; rfl)
   clear hAw
   generalize l[k] = a at z0 z1 z2 z3 z4 z5 HCO HAB HTK
   have GO := xh (fun (X : World) (h : Below wr.heap.size wr X) => yy376 a HAB.out.1.2.1 HAB.out.1.2.2 X (HCO.out.below h))
   clear HCO
   obtain ⟨ak, ai, ap, an, ad, aA, aC, ao⟩ := a
   unfold yy0 at GO
   simp only at z0 z1 z2 z3 z4 z5 HAB HTK GO
   have HBX : Hid (Below wr.heap.size wr (wr.alloc (.cells #[.int .i64 ak, .int .i64 ai, .int .i64 ap, .string (bstr an), .bool ad, .slice aA ao.length aC] 46))) := xh ((Below.refl _ _).alloc (Nat.le_refl _) _)
   have hr6 := yy62 wr 46 (.int .i64 ak) (.int .i64 ai) (.int .i64 ap) (.string (bstr an)) (.bool ad) (.slice aA ao.length aC)
   obtain ⟨y0, y1, y2, y3, y4, y5⟩ := yy11 hr6
   clear hr6
   go_wp2_with fail
   refine (GO.out _ HBX.out).mono ?_
   rintro e x1 ⟨⟨A2, c2, rfl, h1, h2, hown⟩, hb⟩
   have HVB : Hid (V ≤ wr.heap.size) := xh (by rw [HV.out]; exact HB.out.size)
   have HB1 : Hid (Below wr.heap.size wr x1) := xh (HBX.out.trans (hb.mono HBX.out.size))
   have HOW := xh (yy34 hown (base' := V) (Nat.le_trans HVB.out HBX.out.size))
   have HO1 := xh (HO.out.below HB1.out)
   have HY : Hid (ActB ⟨ak, ai, ap, an, ad, A2, c2, ao⟩) := xh ⟨⟨⟨HAB.out.1.1.1, HAB.out.1.1.2.1, HAB.out.1.1.2.2.1, HAB.out.1.1.2.2.2.1, HAB.out.1.1.2.2.2.2.1, h1, h2⟩, HAB.out.1.2⟩, HAB.out.2⟩
   have HBL := xh ((Below.refl x1.heap.size x1).alloc (Nat.le_refl _) (Obj.cells (yy0 ⟨ak, ai, ap, an, ad, A2, c2, ao⟩).toArray 46))
   have hll : out.length ≤ 1048576 := by have := HLE.out; omega
   clear z0 z1 z2 z3 z4 z5 y0 y1 y2 y3 y4 y5 h1 h2 hown hb GO HO
   go_wp2_with (at_builtin
                go_loud (refine yy101 rfl (.tmp 18) (.tmp 21) rfl (B := V) (out := out) (m := [⟨ak, ai, ap, an, ad, A2, c2, ao⟩]) (HO1.out.own.below HBL.out) (Nat.le_trans (Nat.le_trans HVB.out HB1.out.size) HBL.out.size) 1 (yy514 x1 ⟨ak, ai, ap, an, ad, A2, c2, ao⟩ _ rfl) (by simp; omega) rfl rfl ?_)
                intro A7 c7 w7 hown hbel hkeep
                have HO7 : Hid (OutS w7 V A7 c7 (out ++ [⟨ak, ai, ap, an, ad, A2, c2, ao⟩])) := xh ⟨hown, fun z hz => by
                 rcases List.mem_append.1 hz with hz | hz
                 ·exact ⟨(HO1.out.made z hz).1, hkeep _ _ _ _ _ (own_below (HO1.out.made z hz).2 HBL.out)⟩
                 ·rw [List.mem_singleton.1 hz]; exact ⟨HY.out, hkeep _ _ _ _ _ (own_below HOW.out HBL.out)⟩⟩
                have HB7 : Hid (Below V w w7) := xh (((HB.out.trans (HB1.out.mono HVB.out)).trans (HBL.out.mono (Nat.le_trans HVB.out HB1.out.size))).trans hbel)
                clear hown hbel hkeep)
   go_roundw
   case rel => exact ⟨k + 1, A7, c7, _, by omega, by rw [List.length_append]; rfl, by go_num, HO7, xh (by rw [HTK.out, List.map_append, HOK.out]; rfl), xh (by rw [List.length_append, HLE.out]; rfl), HB7⟩
   case measure => simp [intOf]; omega
  ·obtain rfl : k = l.length := by omega
   have hltI : ¬ (l.length : Int) < (l.length : Int) := by omega
   rw [List.take_length] at HOK
   have HLE2 : Hid (out.length ≤ 1048576) := xh (by have := HLE.out; omega)
   clear HLE
   obtain ⟨w5, hw5⟩ : ∃ x, x = wr := ⟨wr, rfl⟩
   subst hw5
   go_wp2
   go_loopw [6, 26] (fun s6 s26 wr => ∃ (k : Nat) (A0 : Option Addr) (c0 : Nat) (out O : List ActV) (V0 : Nat), k ≤ cs.length ∧ s6 = .slice A0 out.length c0 ∧ s26 = .int .i64 (k : Int) ∧ Hid (OutS wr V0 A0 c0 out) ∧ Hid (out.map aKey = O.map aKey) ∧ Hid (out.length ≤ 1048576) ∧ Hid (yy24 O ((cs.drop k).map (·.acts)) = R) ∧ Hid (Below V w wr)) (fun _ s26 _ => cs.length - (intOf s26).toNat)
   case atStart => exact ⟨0, A0, c0, out, l, V, Nat.zero_le _, rfl, rfl, HO, HOK, HLE2, HR, HB⟩
   case round =>
    clear HB HO HOK HLE2 HR
    obtain ⟨k, A0, c0, out, O, V0, hk, rfl, rfl, HO, HOK, HLE, HR, HB⟩ := hrel
    by_cases hlt : k < cs.length
    ·have hltI2 : (k : Int) < (cs.length : Int) := by omega
     have hMw := HM.out _ HB.out
     obtain ⟨b, off, rfl, _⟩ := hMw.form (by omega)
     obtain ⟨z0, z1, z2, z3⟩ := hMw.at_ hlt
     have HCA := xh (hMw.2 _ (List.getElem_mem hlt))
     have HCB := xh (HCG.out _ (List.getElem_mem hlt))
     have HR2 : Hid (yy24 O (cs[k].acts :: (cs.drop (k + 1)).map (·.acts)) = R) := xh (by rw [← HR.out, List.drop_eq_getElem_cons hlt]; rfl)
     clear hMw HR
     generalize cs[k] = y at z0 z1 z2 z3 HCA HCB HR2
     have GO := xh (fun (X : World) (h : Below wr.heap.size wr X) => yy397 y.actsA y.actsC y.acts HCB.out.2.1 HCB.out.2.2 (fun a ha => (HCB.out.1 a ha).1) X (HCA.out.below h))
     have HEH := xh (fun (L : List OneV) (h : L.map (·.k) = eff y.acts) (h2 : ∀ z ∈ L, z.Good) => yy454 h (fun a ha => (HCB.out.1 a ha).1) h2)
     have HYL := xh HCB.out.2.1
     obtain ⟨yr, yc, ys, yA, yC, ya⟩ := y
     simp only at z0 z1 z2 z3 HR2 GO HEH HYL
     have HBX : Hid (Below wr.heap.size wr (wr.alloc (.cells #[.int .i64 yr, .int .i64 yc, .int .i64 ys, .slice yA ya.length yC] 61))) := xh ((Below.refl _ _).alloc (Nat.le_refl _) _)
     clear HCA HCB
     have hVB : V ≤ wr.heap.size := by rw [HV.out]; exact HB.out.size
     have HVB := xh hVB
     clear hVB
     have HE1 : Hid ((rRb O (eff ya)).2 ≠ 0 → R = ([], (rRb O (eff ya)).2)) := xh (fun h => by rw [← HR2.out]; exact yy48 h)
     have HE2 : Hid ((rRb O (eff ya)).2 = 0 → yy24 (rRb O (eff ya)).1 ((cs.drop (k + 1)).map (·.acts)) = R) := xh (fun h => by rw [← HR2.out]; exact (yy49 h).symm)
     have HKE := xh (yy630 (eff ya) HOK.out)
     have HLN := xh (yy637 (l := out) (ks := eff ya))
     clear HR2 HOK
     go_wp2_with fail
     refine (GO.out _ HBX.out).mono ?_
     rintro e x1 ⟨⟨v, rfl, A1, c1, L, rfl, hat, hk1, hgd, hc1⟩, hb⟩
     have HB1 : Hid (Below wr.heap.size wr x1) := xh (HBX.out.trans (hb.mono HBX.out.size))
     obtain ⟨hLl, hLk⟩ := HEH.out L hk1 hgd
     have HO1 := xh (HO.out.below HB1.out)
     have GV := xh (yy304 A0 c0 out HLE.out HO1.out.own.cap (fun a ha => (HO1.out.made a ha).1) A1 c1 L (Nat.le_trans hLl HYL.out) hc1 hLk x1 HO1.out.acts hat (HCF.out _ (HB.out.trans (HB1.out.mono HVB.out))))
     rw [hk1] at GV
     generalize rRb O (eff ya) = Q at HE1 HE2 HKE
     obtain ⟨P, HP⟩ : ∃ P, Hid (rRb out (eff ya) = P) := ⟨_, xh rfl⟩
     rw [HP.out] at GV HKE HLN
     generalize yy290 out (eff ya) = K at GV
     clear HP z0 z1 z2 z3 hat hk1 hgd hc1 hb hLl hLk GO HEH HO HLE
     go_wp2_with fail
     refine (GV.out).mono ?_
     rintro e x2 ⟨⟨A3, c3, o3, v3, V3, rfl, ho3, hk3, _⟩, hb⟩
     have HB2 : Hid (Below V w x2) := xh ((HB.out.trans (HB1.out.mono HVB.out)).trans (hb.mono (Nat.le_trans HVB.out HB1.out.size)))
     have HO3 := xh ho3
     have HK3 := xh hk3
     clear hb ho3 hk3 GV HB HB1 HO1
     obtain ⟨P1, P2⟩ := P
     obtain ⟨Q1, Q2⟩ := Q
     simp only at HKE HLN HE1 HE2 HK3
     obtain rfl : P2 = Q2 := HKE.out.1
     by_cases hq : P2 = 0
     ·have HR3 := xh (HE2.out hq)
      have HL3 : Hid (o3.length ≤ 1048576) := xh (by have := yy638 HK3.out; have := HLN.out hq; omega)
      have hqn : (P2 != 0) = false := by rw [hq]; rfl
      clear hq HE1 HE2 HLN
      go_wp2
      go_roundw
      case rel => exact ⟨k + 1, A3, c3, o3, Q1, V3, by omega, rfl, by go_num, HO3, xh (by rw [HK3.out, HKE.out.2]), HL3, HR3, HB2⟩
      case measure => simp [intOf]; omega
     ·obtain rfl := HE1.out hq
      have hqn : (P2 != 0) = true := by simpa using hq
      clear hq HE1 HE2 HLN
      go_wp2
      go_ret2
      exact ⟨⟨none, 0, [], 0, rfl, ⟨OwnA.nil _ _, fun y h => by cases h⟩, rfl⟩, HB2.out⟩
    ·obtain rfl : k = cs.length := by omega
     have hltI2 : ¬ (cs.length : Int) < (cs.length : Int) := by omega
     have e : (O, (0 : Int)) = R := by
      have := HR.out
      rw [List.drop_length, List.map_nil, yy52] at this
      exact this
     subst e
     go_wp2
     go_ret2
     exact ⟨⟨A0, c0, out, V0, rfl, HO.out, HOK.out⟩, HB.out⟩
theorem yy306 {l : List ActV} {a : ActV} (h : l.map aKey = [a].map aKey) : ∃ y, l = [y] ∧ aKey y = aKey a := by
 cases l with
 | nil => cases h
 | cons y l =>
  cases l with
  | nil =>
   simp only [List.map_cons, List.map_nil, List.cons.injEq, and_true] at h
   exact ⟨y, rfl, h⟩
  | cons z l => simp at h
theorem yy227 {l : List ActV} (h : l.map aKey = ([] : List ActV).map aKey) : l = [] := by
 cases l with
 | nil => rfl
 | cons y l => cases h
theorem yy147 (x : World) (y : ActV) (hc : yy6 x y.opsA y.ops) (g : Nat) (hg : g = x.heap.size) : ActsAt (x.alloc (.cells (yy0 y).toArray 46)) (some ⟨g, 0, none⟩) [y] := by
 refine ⟨yy4.lit (fun j v h => by rw [← Array.getElem?_toList]; exact h) hg, fun z hz => ?_⟩
 rw [List.mem_singleton.1 hz]
 exact hc.below ((Below.refl _ _).alloc (Nat.le_refl _) _)
theorem yy605 (x : World) (y z : ActV) (hy : yy6 x y.opsA y.ops) (hz : yy6 x z.opsA z.ops) (g : Nat) (hg : g = x.heap.size) : ActsAt (x.alloc (.cells (yy0 y ++ yy0 z).toArray 46)) (some ⟨g, 0, none⟩) [y, z] := by
 refine ⟨yy4.lit (fun j v h => by rw [← Array.getElem?_toList]; exact h) hg, fun u hu => ?_⟩
 have hu' : u = y ∨ u = z := by simpa using hu
 rcases hu' with rfl | rfl
 ·exact hy.below ((Below.refl _ _).alloc (Nat.le_refl _) _)
 ·exact hz.below ((Below.refl _ _).alloc (Nat.le_refl _) _)
theorem edE_b {id : Int} (hid : 0 ≤ id ∧ id ≤ 1099511627776) (A : Option Addr) {c : Nat} {a : List CompV} (ha : Held1 a) (ht : tlen a ≤ 4000) (hc : a.length ≤ c) (hm : c ≤ maxLen) : ActB (edE id A c a) :=
 ⟨⟨⟨by show Fit64 4; unfold Fit64; omega, by show Fit64 id; unfold Fit64; omega, by show Fit64 0; unfold Fit64; omega, ⟨by simp [edE], by simp [edE]⟩, ha.good, hc, hm⟩, ha, by simp [edE]⟩, by simp [edE], ht⟩
theorem rmE_b {id : Int} (hid : 0 ≤ id ∧ id ≤ 1099511627776) : ActB (rmE id) :=
 ⟨⟨⟨by show Fit64 2; unfold Fit64; omega, by show Fit64 id; unfold Fit64; omega, by show Fit64 0; unfold Fit64; omega, ⟨by simp [rmE], by simp [rmE]⟩, fun y hy => (by cases hy), Nat.le_refl _, Nat.zero_le _⟩, yy152, by simp [rmE]⟩, by simp [rmE], by simp [rmE, tlen]⟩
theorem yy710 {L : List OneV} (h : L.map (·.k) = awK) (hg : ∀ y ∈ L, y.Good) : L.length ≤ 1048576 ∧ ∀ y ∈ L, y.Good ∧ KeyH y.k := by
 refine ⟨by have := congrArg List.length h; simp [awK] at this; omega, fun y hy => ⟨hg y hy, ?_⟩⟩
 have hm : y.k ∈ awK := by rw [← h]; exact List.mem_map.2 ⟨y, hy, rfl⟩
 have hm' : y.k = ⟨1, insX, true, false, false, false, 0, []⟩ ∨ y.k = ⟨2, [], false, true, false, false, 0, []⟩ := by simpa [awK] using hm
 rcases hm' with e | e
 ·rw [e]; exact ⟨yy305.2.2.2, Nat.zero_le _⟩
 ·rw [e]; exact ⟨yy152, Nat.zero_le _⟩
set_option maxHeartbeats 8000000 in
set_option maxRecDepth 100000 in
theorem yy538 (w : World) (hC : ConfAt w) : Calls Tryd.prog 12 #[] w fun e w' => e = .returned (.bool true) ∧ Below w.heap.size w w' := by
 obtain ⟨gi, hgi⟩ : ∃ g, g = w.heap.size := ⟨_, rfl⟩
 have hi : yy6 (w.alloc (.cells #[.int .i64 2, .int .i64 0, .string { data := #[120] }] 51)) (some ⟨gi, 0, none⟩) insX := yy4.lit (fun j v h => by rw [← Array.getElem?_toList]; exact h) hgi
 have hb1 := (Below.refl w.heap.size w).alloc (Nat.le_refl _) (.cells #[.int .i64 2, .int .i64 0, .string { data := #[120] }] 51)
 have h2 : ActsAt ((w.alloc (.cells #[.int .i64 2, .int .i64 0, .string { data := #[120] }] 51)).alloc (.cells #[.int .i64 4, .int .i64 1, .int .i64 0, .string { data := #[] }, .bool false, .slice (some ⟨gi, 0, none⟩) 1 1, .int .i64 2, .int .i64 2, .int .i64 0, .string { data := #[] }, .bool false, .slice none 0 0] 46)) (some ⟨gi + 1, 0, none⟩) [edE 1 (some ⟨gi, 0, none⟩) 1 insX, rmE 2] := yy605 (w.alloc (.cells #[.int .i64 2, .int .i64 0, .string { data := #[120] }] 51)) (edE 1 (some ⟨gi, 0, none⟩) 1 insX) (rmE 2) hi (.inl rfl) (gi + 1) (by rw [World.size_alloc, hgi])
 have hb2 := (Below.refl (w.alloc (.cells #[.int .i64 2, .int .i64 0, .string { data := #[120] }] 51)).heap.size (w.alloc (.cells #[.int .i64 2, .int .i64 0, .string { data := #[120] }] 51))).alloc (Nat.le_refl _) (.cells #[.int .i64 4, .int .i64 1, .int .i64 0, .string { data := #[] }, .bool false, .slice (some ⟨gi, 0, none⟩) 1 1, .int .i64 2, .int .i64 2, .int .i64 0, .string { data := #[] }, .bool false, .slice none 0 0] 46)
 have HEB := xh (fun (id : Int) (hid : 0 ≤ id ∧ id ≤ 1099511627776) => edE_b hid (some ⟨gi, 0, none⟩) (c := 1) yy305.2.2.2 (by simp [insX, tlen]) (by simp [insX]) (by simp [maxLen]))
 have GO := xh (yy397 (some ⟨gi + 1, 0, none⟩) 2 [edE 1 (some ⟨gi, 0, none⟩) 1 insX, rmE 2] (by simp) (by simp) (fun a ha => by
  have ha' : a = edE 1 (some ⟨gi, 0, none⟩) 1 insX ∨ a = rmE 2 := by simpa using ha
  rcases ha' with rfl | rfl
  ·exact (HEB.out 1 (by omega)).1
  ·exact (rmE_b (by omega)).1) _ h2)
 rw [aw_eff] at GO
 simp only [List.length_cons, List.length_nil, Nat.zero_add, Nat.reduceAdd] at GO
 have HI := xh (hi.below hb2)
 have HB := xh (hb1.trans (hb2.mono hb1.size))
 have HCF := xh (hC.below HB.out)
 have HGI := xh hgi
 clear hi hb1 hb2 h2 hC hgi
 go_enter Tryd.func12, Tryd.ntmps12
 go_upto_region 2 with fail
 rw [← HGI.out]
 go_wp2_with fail
 rw [← HGI.out]
 refine GO.out.mono ?_
 rintro e w1 ⟨⟨v, rfl, A1, c1, L, rfl, hat, hk, hgood, hcap⟩, hb⟩
 replace HB := xh (HB.out.trans (hb.mono HB.out.size))
 replace HI := xh (HI.out.below hb)
 replace HCF := xh (HCF.out.below hb)
 have HAT := xh hat
 have hLL := yy710 hk hgood
 have GV := xh (fun (X : World) (y : ActV) (hy : ActB y) (hc : yy6 X y.opsA y.ops) (hx : OnesAt X A1 L) (hf : ConfAt X) (g : Nat) (hg : g = X.heap.size) => yy304 (some ⟨g, 0, none⟩) 1 [y] (by simp) (by simp) (fun a ha => by rw [List.mem_singleton.1 ha]; exact hy) A1 c1 L hLL.1 hcap hLL.2 _ (yy147 X y hc g hg) (hx.below ((Below.refl _ _).alloc (Nat.le_refl _) _)) (hf.below ((Below.refl _ _).alloc (Nat.le_refl _) _)))
 have GW := xh (fun (X : World) (hx : OnesAt X A1 L) (hf : ConfAt X) => yy634 A1 c1 L (rmE 1) hLL.1 hLL.2 ⟨fun x hx => (by cases hx), Nat.zero_le _⟩ X hx hf)
 rw [hk] at GV GW
 rw [aw_why] at GW
 have G1 := xh (fun (X : World) (hc : yy6 X (some ⟨gi, 0, none⟩) insX) (hx : OnesAt X A1 L) (hf : ConfAt X) (g : Nat) (hg : g = X.heap.size) => (show Calls Tryd.prog 15 _ (X.alloc (.cells #[.int .i64 4, .int .i64 1, .int .i64 0, .string { data := #[] }, .bool false, .slice (some ⟨gi, 0, none⟩) 1 1] 46)) _ from GV.out X (edE 1 (some ⟨gi, 0, none⟩) 1 insX) (HEB.out 1 (by omega)) hc hx hf g hg))
 have G2 := xh (fun (X : World) (hc : yy6 X (some ⟨gi, 0, none⟩) insX) (hx : OnesAt X A1 L) (hf : ConfAt X) (g : Nat) (hg : g = X.heap.size) => (show Calls Tryd.prog 15 _ (X.alloc (.cells #[.int .i64 4, .int .i64 2, .int .i64 0, .string { data := #[] }, .bool false, .slice (some ⟨gi, 0, none⟩) 1 1] 46)) _ from GV.out X (edE 2 (some ⟨gi, 0, none⟩) 1 insX) (HEB.out 2 (by omega)) hc hx hf g hg))
 have G3 := xh (fun (X : World) (hx : OnesAt X A1 L) (hf : ConfAt X) (g : Nat) (hg : g = X.heap.size) => (show Calls Tryd.prog 15 _ (X.alloc (.cells #[.int .i64 2, .int .i64 2, .int .i64 0, .string { data := #[] }, .bool false, .slice none 0 0] 46)) _ from GV.out X (rmE 2) (rmE_b (by omega)) (.inl rfl) hx hf g hg))
 rw [yy755] at G1
 rw [yy756] at G2
 rw [aw_rm] at G3
 simp only [List.length_cons, List.length_nil, Nat.zero_add] at G1 G2 G3
 clear hb GO hcap hat hk hgood hLL GV HEB HGI
 go_wp2_with fail
 refine (G1.out _ HI.out HAT.out HCF.out _ (by simp)).mono ?_
 rintro e w2 ⟨⟨A3, c3, o3, v3, V3, rfl, ho, hk, -⟩, hb⟩
 have hbz := ((Below.refl w1.heap.size w1).alloc (Nat.le_refl _) (.cells #[.int .i64 4, .int .i64 1, .int .i64 0, .string { data := #[] }, .bool false, .slice (some ⟨gi, 0, none⟩) 1 1] 46)).trans (hb.mono (by simp))
 replace HB := xh (HB.out.trans (hbz.mono HB.out.size))
 replace HI := xh (HI.out.below hbz)
 replace HCF := xh (HCF.out.below hbz)
 replace HAT := xh (HAT.out.below hbz)
 obtain ⟨y, rfl, hy⟩ := yy306 hk
 obtain ⟨yk, yi, yp, yn, yd, yA, yC, yo⟩ := y
 obtain ⟨_, _, _, _, _, rfl⟩ := yy386.1 hy
 have HO := xh ho.acts
 obtain ⟨b3, of3, rfl, _⟩ := HO.out.form (by simp)
 clear hb hbz ho hk hy G1
 simp only [List.length_cons, List.length_nil, Nat.zero_add]
 go_wp2_with fail
 refine (G2.out _ HI.out HAT.out HCF.out _ (by simp)).mono ?_
 rintro e w3 ⟨⟨A4, c4, o4, v4, V4, rfl, ho, hk, -⟩, hb⟩
 have hbz := ((Below.refl w2.heap.size w2).alloc (Nat.le_refl _) (.cells #[.int .i64 4, .int .i64 2, .int .i64 0, .string { data := #[] }, .bool false, .slice (some ⟨gi, 0, none⟩) 1 1] 46)).trans (hb.mono (by simp))
 replace HB := xh (HB.out.trans (hbz.mono HB.out.size))
 replace HI := xh (HI.out.below hbz)
 replace HCF := xh (HCF.out.below hbz)
 replace HAT := xh (HAT.out.below hbz)
 replace HO := xh (HO.out.below hbz)
 obtain rfl := yy227 hk
 clear hb hbz ho hk G2
 go_wp2_with fail
 refine (G3.out _ HAT.out HCF.out _ (by simp)).mono ?_
 rintro e w4 ⟨⟨A5, c5, o5, v5, V5, rfl, ho, hk, -⟩, hb⟩
 have hbz := ((Below.refl w3.heap.size w3).alloc (Nat.le_refl _) (.cells #[.int .i64 2, .int .i64 2, .int .i64 0, .string { data := #[] }, .bool false, .slice none 0 0] 46)).trans (hb.mono (by simp))
 replace HB := xh (HB.out.trans (hbz.mono HB.out.size))
 replace HI := xh (HI.out.below hbz)
 replace HCF := xh (HCF.out.below hbz)
 replace HAT := xh (HAT.out.below hbz)
 replace HO := xh (HO.out.below hbz)
 obtain rfl := yy227 hk
 clear hb hbz ho hk G3
 simp only [List.length_nil]
 have z5 := (HO.out.at_ (i := 0) (by simp)).2.2.2.2.2
 simp only [List.getElem_cons_zero, Nat.zero_mul, Nat.add_zero] at z5
 replace z5 : w4.cell? ⟨b3, of3 + 5, none⟩ = some (.slice yA 2 yC) := z5
 unfold yy0 rmE at GW
 simp only [List.length_nil] at GW
 go_wp2_with fail
 refine (GW.out _ HAT.out HCF.out).mono ?_
 rintro e w5 ⟨rfl, hb⟩
 replace HB := xh (HB.out.trans (hb.mono HB.out.size))
 clear hb z5 GW
 go_wp2
 go_ret
 exact ⟨rfl, HB.out⟩
end Go.Proofs.YtjpjdkdbgjipnaaDoor
