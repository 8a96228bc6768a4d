/- What the document fixes of a transaction behind another one, asked by the statements' own awake: it answers true; what was there stays as it was. Condition: the table of conflicts holds what the program's text lays. (Merged of 4 texts.) -/
import Derived.Test.YtjpjdkdbgjipnaaGreatDoorU34
import Derived.Test.YtjpjdkdbgjipnaaGreatDoorU35
import Derived.Test.YtjpjdkdbgjipnaaGreatDoorU36
import Derived.Test.YtjpjdkdbgjipnaaGreatDoorU37
import Derived.Test.YtjpjdkdbgjipnaaGreatDoorU46
import Derived.Test.YtjpjdkdbgjipnaaGreatDoorU47
import Derived.BigQuiet
import Derived.Deep.CutRange
import Derived.Deep.DeepCutAuto
import Derived.Test.YtjpjdkdbgjipnaaGreatDoorU38
import Derived.Test.YtjpjdkdbgjipnaaGreatDoorU6
namespace Go.Proofs.YtjpjdkdbgjipnaaGreatDoor
open Go.RowKit Go.Deep
def MadeR (w0 w : World) (V : Nat) (y : ActV) : Prop := ActB y ∧ (yy8 w0 y.opsA y.ops ∨ w.ownsRow V 60 3 (.slice y.opsA y.ops.length y.opsC) y.ops.length (y.ops.flatMap yy2))
structure OutR (w0 w : World) (V : Nat) (A : Option Addr) (c : Nat) (l : List ActV) : Prop where
 own : OwnA w V A c l
 made : ∀ y ∈ l, MadeR w0 w V y
theorem OutR.below {w0 w w' : World} {V c : Nat} {A : Option Addr} {l : List ActV} (h : OutR w0 w V A c l) (hb : Below w.heap.size w w') : OutR w0 w' V A c l := ⟨h.own.below hb, fun y hy => ⟨(h.made y hy).1, (h.made y hy).2.imp id fun q => own_below q hb⟩⟩
theorem OutR.acts {w0 w : World} {V c : Nat} {A : Option Addr} {l : List ActV} (h : OutR w0 w V A c l) (hb : Below w0.heap.size w0 w) : ActsAt w A l := ⟨h.own.at_, fun y hy => by
 rcases (h.made y hy).2 with q | q
 ·exact q.below hb
 ·exact yy7.of_own q⟩
def yy710 (w' : World) (R : List ActV × Int) (K : List OneK) (e : Ending) : Prop :=
 ∃ A' c' out A2 c2 L2, e = .returned (.tuple #[.slice A' (List.length out) c', .slice A2 (List.length L2) c2, .int .i64 R.2]) ∧ ActsAt w' A' out ∧ (∀ y ∈ out, ActB y) ∧ out.map aKey = R.1.map aKey ∧ OnesAt w' A2 L2 ∧ L2.map (·.k) = K ∧ ∀ y ∈ L2, y.Good ∧ KeyH y.k
theorem yy711 (a : ActV) (ks : List OneK) : rbLeft a ks = ((decide (a.kind = 2) && (getK0 ks a.id).removed) || (decide (a.kind = 3) && (getK0 ks a.id).moved)) := rfl
theorem yy712 {w : World} {V : Nat} {e : TypeId} {size : Nat} {A : Option Addr} {n c : Nat} {xs : List Value} (h : w.ownsRow V e size (.slice A n c) n xs) : n ≤ c := by
 rcases h.2 with ⟨_, h0⟩ | ⟨_, _, _, e, _, _, h3, _⟩
 ·exact Nat.le_trans (Nat.le_of_eq h0) (Nat.zero_le _)
 ·injection e with _ _ e; omega
theorem yy759 {w : World} {V : Nat} {e : TypeId} {size : Nat} {A : Option Addr} {n c : Nat} {xs : List Value} (h : w.ownsRow V e size (.slice A n c) n xs) : c ≤ maxLen := by
 rcases h.2 with ⟨e, _⟩ | ⟨_, _, _, e, _, _, _, h4, _⟩
 ·injection e with _ _ e; rw [e]; exact Nat.zero_le _
 ·injection e with _ _ e; rw [e]; exact h4
set_option maxHeartbeats 16000000 in
set_option maxRecDepth 100000 in
theorem yy236 (A : Option Addr) (c : Nat) (l : List ActV) (hl : l.length ≤ 1048576) (hg : ∀ a ∈ l, ActB a) (B : Option Addr) (d : Nat) (bs : List OneV) (hbl : bs.length ≤ 1048576) (hbg : ∀ y ∈ bs, y.Good ∧ KeyH y.k) (w : World) (hA : ActsAt w A l) (hB : OnesAt w B bs) :
  Calls Tryz.prog 10 #[.slice A l.length c, .slice B bs.length d] w fun e w' => yy710 w' (rRb l (bs.map (·.k))) (yy106 l (bs.map (·.k))) e ∧ Below w.heap.size w w' := by
 obtain ⟨V, hV⟩ : ∃ V, V = w.heap.size := ⟨_, rfl⟩
 have hblM : bs.length ≤ maxLen := by unfold maxLen; omega
 have GC := xh (yy331 A c l (by unfold maxLen; omega) (fun a ha => (hg a ha).ok) w hA)
 have GCO := xh (fun (X : World) (A' : Option Addr) (c' : Nat) (out : List ActV) (h : OutR w X V A' c' out) (hb : Below w.heap.size w X) => yy331 A' c' out (yy400 h.own) (fun a ha => (h.made a ha).1.ok) X (h.acts hb))
 have GL := xh (fun (X : World) (h : Below w.heap.size w X) => yy242 B d bs hbl hbg A c l hl (fun a ha => (hg a ha).1) X (hB.below h) (hA.below h))
 have GW := xh (fun (a : ActV) (hn : Bytes a.name) (X : World) (h : Below w.heap.size w X) => yy333 B d bs a hblM (fun y hy => (hbg y hy).1) hn X (hB.below h))
 have GG := xh (fun (id : Int) (X : World) (h : Below w.heap.size w X) => yy332 B d bs id hblM X (hB.below h))
 have K0 := xh (fun (id : Int) => yy386 bs id)
 have HBS := xh (fun (X : World) (h : Below w.heap.size w X) => hB.below h)
 have HBG0 := xh hbg
 obtain ⟨ks, HKS⟩ : ∃ q, Hid (bs.map (·.k) = q) := ⟨_, xh rfl⟩
 rw [HKS.out] at GL GW K0 ⊢
 obtain ⟨R, HR⟩ : ∃ R, Hid (rRb l ks = R) := ⟨_, xh rfl⟩
 obtain ⟨K, HK⟩ : ∃ K, Hid (yy106 l ks = K) := ⟨_, xh rfl⟩
 rw [HR.out, HK.out]
 have HKN : Hid (R.2 ≠ 0 → K = ks) := xh (fun h => by rw [← HK.out]; exact yy330 (by rw [HR.out]; exact h))
 have HKY : Hid (R.2 = 0 → K = overK ks l) := xh (fun h => by rw [← HK.out]; exact yy255 (by rw [HR.out]; exact h))
 have HF1 : Hid (rChk l ≠ 0 → R = ([], rChk l)) := xh (fun h => by rw [← HR.out]; exact yy425 h)
 obtain ⟨Q, HQ⟩ : ∃ Q, Hid (rbR ks [] l = Q) := ⟨_, xh rfl⟩
 have HF2 : Hid (rChk l = 0 → Q.2 ≠ 0 → R = ([], Q.2)) := xh (fun h1 h => by rw [← HQ.out] at h ⊢; rw [← HR.out]; exact yy559 h1 h)
 have HF3 : Hid (rChk l = 0 → Q.2 = 0 → rChk Q.1 ≠ 0 → R = ([], rChk Q.1)) := xh (fun h1 h2 h => by rw [← HQ.out] at h2 h ⊢; rw [← HR.out]; exact yy560 h1 h2 h)
 have HF4 : Hid (rChk l = 0 → Q.2 = 0 → rChk Q.1 = 0 → R = (Q.1, 0)) := xh (fun h1 h2 h => by rw [← HQ.out] at h2 h ⊢; rw [← HR.out]; exact yy561 h1 h2 h)
 have HA := xh (fun (X : World) (h : Below w.heap.size w X) => hA.below h)
 have HA0 := xh hA
 have HG := xh hg
 clear hA hB hg hbg HR HK
 rw [← hV] at GL GW GG HA HBS GCO ⊢
 have HV := xh hV
 clear hV
 obtain ⟨rc, HRC⟩ : ∃ r, Hid (rChk l = r) := ⟨_, xh rfl⟩
 rw [HRC.out] at GC HF1 HF2 HF3 HF4
 go_enter Tryz.func10, Tryz.ntmps10
 go_wp2_with fail
 refine GC.out.mono ?_
 rintro e x1 ⟨rfl, hb⟩
 have HB : Hid (Below V w x1) := xh (by rw [HV.out]; exact hb)
 clear hb GC
 by_cases hr : rc = 0
 rotate_left
 ·obtain rfl := HF1.out hr
  have HKE := xh (HKN.out hr)
  have hrn : (rc != 0) = true := by simpa using hr
  clear hr HF2 HF3 HF4 HKY
  go_wp2
  go_ret3
  exact ⟨⟨none, 0, [], _, d, bs, rfl, ⟨.inl rfl, fun a ha => (by cases ha)⟩, fun y hy => (by cases hy), rfl, HBS.out _ HB.out, HKS.out.trans HKE.out.symm, HBG0.out⟩, HB.out⟩
 have HF2' := xh (HF2.out hr)
 have HF3' := xh (HF3.out hr)
 have HF4' := xh (HF4.out hr)
 have hrn : (rc != 0) = false := by rw [hr]; rfl
 clear HF1 HF2 HF3 HF4 hr
 go_wp2_with fail
 go_loopw [7, 8, 9, 10, 11, 12, 13] (fun s7 s8 s9 s10 s11 s12 s13 wr => ∃ (k : Nat) (A0 : Option Addr) (c0 : Nat) (out O : List ActV), k ≤ l.length ∧ s7 = s7 ∧ s8 = .slice A0 out.length c0 ∧ s9 = .int .i64 (k : Int) ∧ s10 = s10 ∧ s11 = s11 ∧ s12 = s12 ∧ s13 = s13 ∧ Hid (OutR w wr V A0 c0 out) ∧ Hid (out.map aKey = O.map aKey) ∧ Hid (out.length ≤ k) ∧ Hid (rbR ks O (l.drop k) = Q) ∧ Hid (Below V w wr)) (fun _ _ s9 _ _ _ _ _ => l.length - (intOf s9).toNat)
 case atStart => exact ⟨0, none, 0, [], [], Nat.zero_le _, rfl, rfl, rfl, rfl, rfl, rfl, rfl, xh ⟨OwnA.nil _ _, fun y h => by cases h⟩, xh rfl, xh (Nat.le_refl _), HQ, HB⟩
 case round =>
  clear HB HQ
  obtain ⟨k, A0, c0, out, O, hk, _, rfl, rfl, _, _, _, _, HO, HOK, HLE, HQ, HB⟩ := hrel
  by_cases hlt : k < l.length
  ·have hltI : (k : Int) < (l.length : Int) := by omega
   have hAw := HA.out _ HB.out
   obtain ⟨b, off, rfl, _⟩ := hAw.form (by omega)
   obtain ⟨z0, z1, z2, z3, z4, z5⟩ := hAw.at_ hlt
   have HCO := xh (hAw.2 _ (List.getElem_mem hlt))
   have HCO0 := xh (HA0.out.2 _ (List.getElem_mem hlt))
   have HAB := xh (HG.out _ (List.getElem_mem hlt))
   have HQ2 : Hid (rbR ks O (l[k] :: l.drop (k + 1)) = Q) := xh (by rw [← List.drop_eq_getElem_cons hlt]; exact HQ.out)
   clear HQ hAw
   generalize l[k] = a at z0 z1 z2 z3 z4 z5 HCO HCO0 HAB HQ2
   have GWa := xh (fun (X : World) (h : Below V w X) => GW.out a HAB.out.1.1.2.2.2.1 X h)
   have GGa := xh (fun (X : World) (h : Below V w X) => GG.out a.id X h)
   have K1 := xh (K0.out a.id)
   obtain ⟨gx, HGX⟩ : ∃ q, Hid (getO bs a.id = q) := ⟨_, xh rfl⟩
   rw [HGX.out] at GGa K1
   obtain ⟨x, HXK⟩ : ∃ q, Hid (getK0 ks a.id = q) := ⟨_, xh rfl⟩
   obtain ⟨wy, HWY⟩ : ∃ q, Hid (rWhy a ks = q) := ⟨_, xh rfl⟩
   rw [HWY.out] at GWa
   have HST1 : Hid (wy ≠ 0 → Q = ([], wy)) := xh (fun h => by
    rw [← HQ2.out]
    have e := yy151 (a := a) (ks := ks) (by rw [HWY.out]; exact h)
    rw [yy135 (by rw [e, HWY.out]; exact h), e, HWY.out])
   obtain ⟨lf, HLF⟩ : ∃ q, Hid (((decide (a.kind = 2) && x.removed) || (decide (a.kind = 3) && x.moved)) = q) := ⟨_, xh rfl⟩
   have HLF2 : Hid (rbLeft a ks = lf) := xh (by rw [yy711, HXK.out]; exact HLF.out)
   have HSTL : Hid (wy = 0 → lf = true → rbR ks O (l.drop (k + 1)) = Q) := xh (fun h1 h2 => by
    rw [← HQ2.out]
    have e := yy107 (a := a) (ks := ks) (by rw [HWY.out]; exact h1) (by rw [HLF2.out]; exact h2)
    rw [rbR_go (by rw [e]), e]
    simp)
   have HSTK : Hid (wy = 0 → lf = false → ¬ (a.kind = 4 ∧ x.edited = true ∧ x.ops ≠ []) → rbR ks (O ++ [a]) (l.drop (k + 1)) = Q) := xh (fun h1 h2 h3 => by
    rw [← HQ2.out]
    have e := yy152 (a := a) (ks := ks) (by rw [HWY.out]; exact h1) (by rw [HLF2.out]; exact h2) (by unfold rbEdit; rw [HXK.out]; exact h3)
    rw [rbR_go (by rw [e]), e]
    rfl)
   have HSTE : Hid (wy = 0 → lf = false → (a.kind = 4 ∧ x.edited = true ∧ x.ops ≠ []) → (rOver false a.ops x.ops).2 = 0 → rbR ks (O ++ [{ a with ops := (rOver false a.ops x.ops).1 }]) (l.drop (k + 1)) = Q) := xh (fun h1 h2 h3 h4 => by
    rw [← HQ2.out]
    have e := yy108 (a := a) (ks := ks) (by rw [HWY.out]; exact h1) (by rw [HLF2.out]; exact h2) (by unfold rbEdit; rw [HXK.out]; exact h3) (by rw [HXK.out]; exact h4)
    rw [rbR_go (by rw [e]), e, HXK.out]
    rfl)
   have HSTX : Hid (wy = 0 → lf = false → (a.kind = 4 ∧ x.edited = true ∧ x.ops ≠ []) → (rOver false a.ops x.ops).2 ≠ 0 → Q = ([], ((rOver false a.ops x.ops).2 : Int))) := xh (fun h1 h2 h3 h4 => by
    rw [← HQ2.out]
    have e := yy203 (a := a) (ks := ks) (by rw [HWY.out]; exact h1) (by rw [HLF2.out]; exact h2) (by unfold rbEdit; rw [HXK.out]; exact h3) (by rw [HXK.out]; exact h4)
    rw [yy135 (by rw [e, HXK.out]; show ((rOver false a.ops x.ops).2 : Int) ≠ 0; omega), e, HXK.out])
   rw [HXK.out] at K1
   clear HWY HQ2 HLF2 HGX HXK
   obtain ⟨ak, ai, ap, an, ad, aA, aC, ao⟩ := a
   simp only at z0 z1 z2 z3 z4 z5 HAB HCO HCO0 HLF HSTL HSTK HSTE HSTX GGa
   unfold yy0 at GWa
   simp only at GWa
   obtain ⟨gb, hgb⟩ : ∃ x, x = wr.heap.size := ⟨_, rfl⟩
   have HRG := xh (yy53 wr 26 (.int .i64 ak) (.int .i64 ai) (.int .i64 ap) (.string (bstr an)) (.bool ad) (.slice aA ao.length aC))
   have HBG : Hid (Below wr.heap.size wr (wr.alloc (.cells #[.int .i64 ak, .int .i64 ai, .int .i64 ap, .string (bstr an), .bool ad, .slice aA ao.length aC] 26))) := xh ((Below.refl _ _).alloc (Nat.le_refl _) _)
   rw [← hgb] at HRG
   have HGB := xh hgb
   have HVB : Hid (V ≤ wr.heap.size) := xh (by rw [HV.out]; exact HB.out.size)
   clear hgb
   go_upto_region 9 with fail
   rw [← HGB.out]
   obtain ⟨X1, HX1⟩ : ∃ x, Hid (wr.alloc (.cells #[.int .i64 ak, .int .i64 ai, .int .i64 ap, .string (bstr an), .bool ad, .slice aA ao.length aC] 26) = x) := ⟨_, xh rfl⟩
   rw [HX1.out] at HRG HBG ⊢
   clear HX1 z0 z1 z2 z3 z4 z5
   obtain ⟨y0', y1, y2, y3, y4, y5⟩ := yy10 HRG.out
   go_wp2_with fail
   refine (GWa.out _ (HB.out.trans (HBG.out.mono HVB.out))).mono ?_
   rintro e x2 ⟨rfl, hb⟩
   replace HRG := xh (HRG.out.of_block (hb.block _ HRG.out.lt))
   replace HBG : Hid (Below wr.heap.size wr x2) := xh (HBG.out.trans (hb.mono HBG.out.size))
   clear hb y0' y1 y2 y3 y4 y5 GWa
   by_cases hw : wy = 0
   rotate_left
   ·obtain rfl := HST1.out hw
    obtain rfl := HF2'.out hw
    have HKE := xh (HKN.out hw)
    have hwn : (wy != 0) = true := by simpa using hw
    have HB0 : Hid (Below V w x2) := xh (HB.out.trans (HBG.out.mono HVB.out))
    clear HB hw HF3' HF4' HKY HST1 HSTL HSTK HSTE HSTX
    have HB := HB0
    go_wp2
    go_ret3
    exact ⟨⟨none, 0, [], _, d, bs, rfl, ⟨.inl rfl, fun a ha => (by cases ha)⟩, fun y hy => (by cases hy), rfl, HBS.out _ HB.out, HKS.out.trans HKE.out.symm, HBG0.out⟩, HB.out⟩
   have HSL := xh (HSTL.out hw)
   have HSK := xh (HSTK.out hw)
   have HSE := xh (HSTE.out hw)
   have HSX := xh (HSTX.out hw)
   have hwn : (wy != 0) = false := by rw [hw]; rfl
   clear HST1 HSTL HSTK HSTE HSTX hw
   obtain ⟨y0', y1, y2, y3, y4, y5⟩ := yy10 HRG.out
   clear y0' y2 y3 y4 y5
   go_wp2_with fail
   refine (GGa.out _ (HB.out.trans (HBG.out.mono HVB.out))).mono ?_
   rintro e x3 ⟨rfl, hb⟩
   replace HRG := xh (HRG.out.of_block (hb.block _ HRG.out.lt))
   replace HBG : Hid (Below wr.heap.size wr x3) := xh (HBG.out.trans (hb.mono HBG.out.size))
   clear hb y1 GGa
   obtain ⟨y0', y1, y2, y3, y4, y5⟩ := yy10 HRG.out
   rcases K1.out with ⟨e1, e2⟩ | ⟨kq, hkq, e1, e2⟩
   ·subst e1
    subst e2
    have hlf : lf = false := by rw [← HLF.out]; simp [oneZ]
    have HQN := xh (HSK.out hlf (fun h => by simp [oneZ] at h))
    clear hlf HLF HSL HSK HSE HSX
    go_upto_region 14 with fail
    go_cut [89] from 67 to 89 (fun s89 wx => s89 = .bool false ∧ wx = x3)
    case first =>
     by_cases j4 : ak = 4
     ·have d4 : (ak == 4) = true := by rw [j4]; rfl
      clear j4
      go_wp2_with fail
      go_meet
      case rel => exact ⟨rfl, rfl⟩
     ·have d4 : (ak == 4) = false := xn j4
      clear j4
      go_wp2_with fail
      go_meet
      case rel => exact ⟨rfl, rfl⟩
    case rest =>
     clear y0' y1 y2 y3 y4 y5
     obtain ⟨rfl, rfl⟩ := hcut
     obtain ⟨y0', y1, y2, y3, y4, y5⟩ := yy10 HRG.out
     have HO2 := xh (HO.out.below HBG.out)
     have HB2 : Hid (Below V w wc) := xh (HB.out.trans (HBG.out.mono HVB.out))
     have HBL := xh ((Below.refl wc.heap.size wc).alloc (Nat.le_refl _) (Obj.cells (yy0 ⟨ak, ai, ap, an, ad, aA, aC, ao⟩).toArray 26))
     have hll : out.length ≤ 1048576 := by have := HLE.out; omega
     go_wp2_with (at_builtin
                  refine yy49 rfl (.tmp 107) (.tmp 109) rfl (B := V) (out := out) (m := [⟨ak, ai, ap, an, ad, aA, aC, ao⟩]) (HO2.out.own.below HBL.out) (Nat.le_trans (Nat.le_trans HVB.out HBG.out.size) HBL.out.size) 1 (yy229 wc ⟨ak, ai, ap, an, ad, aA, aC, ao⟩ _ rfl) (by simp; omega) rfl rfl ?_
                  intro A7 c7 w7 hown hbel hkeep
                  have HO7 : Hid (OutR w w7 V A7 c7 (out ++ [⟨ak, ai, ap, an, ad, aA, aC, ao⟩])) := xh ⟨hown, fun z hz => by
                   rcases List.mem_append.1 hz with hz | hz
                   ·exact ⟨(HO2.out.made z hz).1, (HO2.out.made z hz).2.imp id fun q => hkeep _ _ _ _ _ (own_below q HBL.out)⟩
                   ·rw [List.mem_singleton.1 hz]; exact ⟨HAB.out, .inl HCO0.out⟩⟩
                  have HB7 : Hid (Below V w w7) := xh ((HB2.out.trans (HBL.out.mono (Nat.le_trans HVB.out HBG.out.size))).trans hbel)
                  clear hown hbel hkeep)
     go_roundw
     case rel => exact ⟨k + 1, A7, c7, _, O ++ [⟨ak, ai, ap, an, ad, aA, aC, ao⟩], by omega, trivial, by rw [List.length_append]; rfl, by go_num, trivial, trivial, trivial, trivial, HO7, xh (by rw [List.map_append, List.map_append, HOK.out] <;> rfl), xh (by have := HLE.out; simp only [List.length_append, List.length_cons, List.length_nil]; omega), HQN, HB7⟩
     case measure => simp [intOf]; omega
   ·subst e1
    have hAw := HBS.out _ (HB.out.trans (HBG.out.mono HVB.out))
    obtain ⟨b1, o1, rfl, _⟩ := hAw.form (by omega)
    have HXC := xh (fun (X : World) (h : Below V w X) => (HBS.out X h).at_ hkq)
    have HYG := xh (HBG0.out _ (List.getElem_mem hkq))
    have HYC := xh (fun (X : World) (h : Below V w X) => (HBS.out X h).2 _ (List.getElem_mem hkq))
    have hkI : (kq : Int) < (bs.length : Int) := by omega
    have hk0 : (0 : Int) ≤ (kq : Int) := by omega
    generalize bs[kq] = y at HXC HYG HYC e2
    subst e2
    clear hAw
    obtain ⟨u0, u1, u2, u3, u4, u5, u6, u7⟩ := HXC.out _ (HB.out.trans (HBG.out.mono HVB.out))
    go_upto_region 13 with fail
    go_cut [66] from 41 to 66 (fun s66 wx => s66 = .bool lf ∧ wx = x3)
    case first =>
     by_cases j2 : ak = 2
     ·have d2 : (ak == 2) = true := by rw [j2]; rfl
      have d3 : (ak == 3) = false := xn (by omega)
      have HE : Hid (y.k.removed = lf) := xh (by rw [← HLF.out]; simp [j2])
      clear j2
      cases hrm : y.k.removed <;> (rw [hrm] at u3 HE; go_wp2_with fail; go_meet; case rel => exact ⟨by rw [← HE.out], rfl⟩)
     ·have d2 : (ak == 2) = false := xn j2
      by_cases j3 : ak = 3
      ·have d3 : (ak == 3) = true := by rw [j3]; rfl
       have HE : Hid (y.k.moved = lf) := xh (by rw [← HLF.out]; simp [j3])
       clear j2 j3
       go_wp2_with fail
       go_meet
       case rel => exact ⟨by rw [← HE.out], rfl⟩
      ·have d3 : (ak == 3) = false := xn j3
       have HE : Hid (false = lf) := xh (by rw [← HLF.out]; simp [j2, j3])
       clear j2 j3
       go_wp2_with fail
       go_meet
       case rel => exact ⟨by rw [← HE.out], rfl⟩
    case rest =>
     obtain ⟨rfl, hxx⟩ := hcut
     subst hxx
     cases lf with
     | true =>
      have HQN := xh (HSL.out rfl)
      have HB2 : Hid (Below V w wc) := xh (HB.out.trans (HBG.out.mono HVB.out))
      have HO2 := xh (HO.out.below HBG.out)
      clear HSL HSK HSE HSX
      go_wp2
      go_roundw
      case rel => exact ⟨k + 1, A0, c0, out, O, by omega, trivial, rfl, by go_num, trivial, trivial, trivial, trivial, HO2, HOK, xh (by have := HLE.out; omega), HQN, HB2⟩
      case measure => simp [intOf]; omega
     | false =>
      have HS1 := xh (HSK.out rfl)
      have HS2 := xh (HSE.out rfl)
      have HS3 := xh (HSX.out rfl)
      clear HSL HSK HSE HSX HLF
      obtain ⟨ed, HED⟩ : ∃ ed : Bool, Hid (ed = true ↔ (ak = 4 ∧ y.k.edited = true ∧ y.k.ops ≠ [])) := ⟨decide (ak = 4 ∧ y.k.edited = true ∧ y.k.ops ≠ []), xh (by simp)⟩
      go_upto_region 14 with fail
      go_cut [89] from 67 to 89 (fun s89 wx => s89 = .bool ed ∧ wx = wc)
      case first =>
       by_cases j4 : ak = 4
       ·have d4 : (ak == 4) = true := by rw [j4]; rfl
        cases hed : y.k.edited with
        | false =>
         have HE : Hid (ed = false) := xh (by rw [Bool.eq_false_iff]; intro h; have := (HED.out.1 h).2.1; rw [hed] at this; cases this)
         rw [hed] at u2
         clear j4 hed
         go_wp2_with fail
         go_meet
         case rel => exact ⟨by rw [HE.out], rfl⟩
        | true =>
         rw [hed] at u2
         by_cases jo : y.k.ops = []
         ·have HE : Hid (ed = false) := xh (by rw [Bool.eq_false_iff]; intro h; exact (HED.out.1 h).2.2 jo)
          have dl : decide ((0 : Int) < (y.k.ops.length : Int)) = false := decide_eq_false (by rw [jo]; simp)
          have dl2 : decide (0 < y.k.ops.length) = false := decide_eq_false (by rw [jo]; simp)
          clear j4 hed jo
          go_wp2_with fail
          go_meet
          case rel => exact ⟨by rw [HE.out], rfl⟩
         ·have hne : 0 < y.k.ops.length := List.length_pos_iff.2 jo
          have HE : Hid (ed = true) := xh (HED.out.2 ⟨j4, hed, jo⟩)
          have dl : decide ((0 : Int) < (y.k.ops.length : Int)) = true := decide_eq_true (by omega)
          have dl2 : decide (0 < y.k.ops.length) = true := decide_eq_true hne
          clear j4 hed jo hne
          go_wp2_with fail
          go_meet
          case rel => exact ⟨by rw [HE.out], rfl⟩
       ·have d4 : (ak == 4) = false := xn j4
        have HE : Hid (ed = false) := xh (by rw [Bool.eq_false_iff]; intro h; exact j4 (HED.out.1 h).1)
        clear j4
        go_wp2_with fail
        go_meet
        case rel => exact ⟨by rw [HE.out], rfl⟩
      case rest =>
       clear y0' y1 y2 y3 y4 y5 u0 u1 u2 u3 u4 u5 u6 u7
       obtain ⟨rfl, hxx⟩ := hcut
       subst hxx
       cases ed with
       | false =>
        have HQN := xh (HS1.out (fun h => by have := HED.out.2 h; cases this))
        clear HS1 HS2 HS3 HED
        obtain ⟨y0', y1, y2, y3, y4, y5⟩ := yy10 HRG.out
        have HO2 := xh (HO.out.below HBG.out)
        have HB2 : Hid (Below V w wc) := xh (HB.out.trans (HBG.out.mono HVB.out))
        have HBL := xh ((Below.refl wc.heap.size wc).alloc (Nat.le_refl _) (Obj.cells (yy0 ⟨ak, ai, ap, an, ad, aA, aC, ao⟩).toArray 26))
        have hll : out.length ≤ 1048576 := by have := HLE.out; omega
        go_wp2_with (at_builtin
                     refine yy49 rfl (.tmp 107) (.tmp 109) rfl (B := V) (out := out) (m := [⟨ak, ai, ap, an, ad, aA, aC, ao⟩]) (HO2.out.own.below HBL.out) (Nat.le_trans (Nat.le_trans HVB.out HBG.out.size) HBL.out.size) 1 (yy229 wc ⟨ak, ai, ap, an, ad, aA, aC, ao⟩ _ rfl) (by simp; omega) rfl rfl ?_
                     intro A7 c7 w7 hown hbel hkeep
                     have HO7 : Hid (OutR w w7 V A7 c7 (out ++ [⟨ak, ai, ap, an, ad, aA, aC, ao⟩])) := xh ⟨hown, fun z hz => by
                      rcases List.mem_append.1 hz with hz | hz
                      ·exact ⟨(HO2.out.made z hz).1, (HO2.out.made z hz).2.imp id fun q => hkeep _ _ _ _ _ (own_below q HBL.out)⟩
                      ·rw [List.mem_singleton.1 hz]; exact ⟨HAB.out, .inl HCO0.out⟩⟩
                     have HB7 : Hid (Below V w w7) := xh ((HB2.out.trans (HBL.out.mono (Nat.le_trans HVB.out HBG.out.size))).trans hbel)
                     clear hown hbel hkeep)
        go_roundw
        case rel => exact ⟨k + 1, A7, c7, _, O ++ [⟨ak, ai, ap, an, ad, aA, aC, ao⟩], by omega, trivial, by rw [List.length_append]; rfl, by go_num, trivial, trivial, trivial, trivial, HO7, xh (by rw [List.map_append, List.map_append, HOK.out] <;> rfl), xh (by have := HLE.out; simp only [List.length_append, List.length_cons, List.length_nil]; omega), HQN, HB7⟩
        case measure => simp [intOf]; omega
       | true =>
        have HS4 := xh (HS2.out (HED.out.1 rfl))
        have HS5 := xh (HS3.out (HED.out.1 rfl))
        clear HS1 HS2 HS3 HED
        have GO := xh (fun (X : World) (h1 : yy8 X aA ao) (h2 : yy8 X y.opsA y.k.ops) => yy228 aA aC ao y.opsA y.opsC y.k.ops HAB.out.1.2.1.max HYG.out.2.1.max HAB.out.1.2.1.fine HYG.out.2.1.fine false X h1 h2)
        have HTX := xh (yy313 false ao y.k.ops)
        generalize rOver false ao y.k.ops = pq at GO HS4 HS5 HTX
        obtain ⟨P, q⟩ := pq
        simp only at HS4 HS5 HTX
        go_wp2_with fail
        refine wp_region_lit sc8 (by kernel_rfl) (by kernel_rfl) (fun _ _ d _ _ h => by cases d <;> exact h) ?_
        simp only [picked, sc8, xmc, xmn, xgs, xgz, xgd]
        replace HRG := xh HRG.out.drew
        replace HBG := xh (Below.drew HBG.out)
        have HBGs : Hid (Below V w wc.drew) := xh (HB.out.trans (HBG.out.mono HVB.out))
        have q5 := fun e : Ext wc.drew => Ext.cell (w := wc.drew) (yy10 HRG.out).2.2.2.2.2 e
        have q1 := fun e : Ext wc.drew => Ext.cell (w := wc.drew) (HXC.out _ HBGs.out).2.1 e
        generalize wc.drew = wv at HRG HBG HBGs q5 q1 ⊢
        repeat (first | (refine yy1 (by rfl) (fun K hK => ?_); go_big_quiet_op; refine hK _ ?_; clear hK K) | (refine yy3 (by rfl) ?_; simp only [Act.put, xsa, xsz, xss]))
        clear q5 q1
        refine yy11 (by rfl) (fun K hK => ?_)
        go_simp
        refine (GO.out wv (HCO.out.below HBG.out) (HYC.out wv HBGs.out)).mono ?_
        rintro e v2 ⟨⟨A3, c3, rfl, hown3⟩, hh3, hb⟩
        refine hK _ _ hb ?_
        clear hK K GO
        have HGV : Hid (gb < wv.heap.size) := xh HRG.out.lt
        have HVV : Hid (V ≤ wv.heap.size) := xh (Nat.le_trans HVB.out HBG.out.size)
        replace HRG := xh (HRG.out.of_block (hb.block _ HRG.out.lt))
        replace HBG : Hid (Below wr.heap.size wr v2) := xh (HBG.out.trans (hb.mono HBG.out.size))
        have HQH := xh hh3
        have HQR := xh hown3
        clear hb hh3 hown3 HBGs
        repeat (first | (refine yy1 (by rfl) (fun K hK => ?_); go_big_quiet_op; refine hK _ ?_; clear hK K) | (refine yy3 (by rfl) ?_; simp only [Act.put, xsa, xsz, xss]))
        refine yy25 ?_
        by_cases hq : q = 0
        rotate_left
        ·obtain rfl := HS5.out hq
         obtain rfl := HF2'.out (by show ((q : Nat) : Int) ≠ 0; omega)
         have HKE := xh (HKN.out (by show ((q : Nat) : Int) ≠ 0; omega))
         have hqn : ((q : Int) != 0) = true := bne_iff_ne.2 (by omega)
         have HB0 : Hid (Below V w v2) := xh (HB.out.trans (HBG.out.mono HVB.out))
         clear HB hq HF3' HF4' HKY HS4 HS5
         have HB := HB0
         go_wp2
         go_ret3
         exact ⟨⟨none, 0, [], _, d, bs, rfl, ⟨.inl rfl, fun a ha => (by cases ha)⟩, fun y hy => (by cases hy), rfl, HBS.out _ HB.out, HKS.out.trans HKE.out.symm, HBG0.out⟩, HB.out⟩
        have HQN := xh (HS4.out hq)
        have hqn : ((q : Int) != 0) = false := by rw [hq]; rfl
        clear hq HS4 HS5
        have s5 := (yy10 HRG.out).2.2.2.2.2
        have f5 := HRG.out.frozen 5
        have HRN : Hid (World.rowIs (v2.setCell ⟨gb, 5, none⟩ (.slice A3 P.length c3)) gb 26 6 (sixV (.int .i64 ak) (.int .i64 ai) (.int .i64 ap) (.string (bstr an)) (.bool ad) (.slice A3 P.length c3))) := xh ((HRG.out.set 5 (.slice A3 P.length c3)).congr fun i hi => by rcases (show i = 0 ∨ i = 1 ∨ i = 2 ∨ i = 3 ∨ i = 4 ∨ i = 5 by omega) with rfl | rfl | rfl | rfl | rfl | rfl <;> rfl)
        have HBN : Hid (Below wr.heap.size wr (v2.setCell ⟨gb, 5, none⟩ (.slice A3 P.length c3))) := xh (HBG.out.setCell (p := ⟨gb, 5, none⟩) (by rw [HGB.out]; exact Nat.le_refl _) _)
        have HPN : Hid (World.ownsRow (v2.setCell ⟨gb, 5, none⟩ (.slice A3 P.length c3)) V 60 3 (.slice A3 P.length c3) P.length (P.flatMap yy2)) := xh (yy36 (ownsRow_setCell_below HQR.out (a := ⟨gb, 5, none⟩) HGV.out _) HVV.out)
        have HY : Hid (ActB ⟨ak, ai, ap, an, ad, A3, c3, P⟩) := xh ⟨⟨⟨HAB.out.1.1.1, HAB.out.1.1.2.1, HAB.out.1.1.2.2.1, HAB.out.1.1.2.2.2.1, HQH.out.good, yy712 HQR.out, yy759 HQR.out⟩, HQH.out, HAB.out.1.2.2⟩, HAB.out.2.1, Nat.le_trans HTX.out HAB.out.2.2⟩
        go_upto_region 19 with fail
        obtain ⟨x7, HX7⟩ : ∃ y, Hid (v2.setCell ⟨gb, 5, none⟩ (.slice A3 P.length c3) = y) := ⟨_, xh rfl⟩
        rw [HX7.out] at HRN HBN HPN ⊢
        clear HX7 s5 f5 HRG HBG HQR
        have HRG := HRN
        have HBG := HBN
        obtain ⟨y0', y1, y2, y3, y4, y5⟩ := yy10 HRG.out
        have HO2 := xh (HO.out.below HBG.out)
        have HB2 : Hid (Below V w x7) := xh (HB.out.trans (HBG.out.mono HVB.out))
        have HBL := xh ((Below.refl x7.heap.size x7).alloc (Nat.le_refl _) (Obj.cells (yy0 ⟨ak, ai, ap, an, ad, A3, c3, P⟩).toArray 26))
        have hll : out.length ≤ 1048576 := by have := HLE.out; omega
        go_wp2_with (at_builtin
                     refine yy49 rfl (.tmp 107) (.tmp 109) rfl (B := V) (out := out) (m := [⟨ak, ai, ap, an, ad, A3, c3, P⟩]) (HO2.out.own.below HBL.out) (Nat.le_trans (Nat.le_trans HVB.out HBG.out.size) HBL.out.size) 1 (yy229 x7 ⟨ak, ai, ap, an, ad, A3, c3, P⟩ _ rfl) (by simp; omega) rfl rfl ?_
                     intro A7 c7 w7 hown hbel hkeep
                     have HO7 : Hid (OutR w w7 V A7 c7 (out ++ [⟨ak, ai, ap, an, ad, A3, c3, P⟩])) := xh ⟨hown, fun z hz => by
                      rcases List.mem_append.1 hz with hz | hz
                      ·exact ⟨(HO2.out.made z hz).1, (HO2.out.made z hz).2.imp id fun q => hkeep _ _ _ _ _ (own_below q HBL.out)⟩
                      ·rw [List.mem_singleton.1 hz]; exact ⟨HY.out, .inr (hkeep _ _ _ _ _ (own_below HPN.out HBL.out))⟩⟩
                     have HB7 : Hid (Below V w w7) := xh ((HB2.out.trans (HBL.out.mono (Nat.le_trans HVB.out HBG.out.size))).trans hbel)
                     clear hown hbel hkeep)
        go_roundw
        case rel => exact ⟨k + 1, A7, c7, _, O ++ [⟨ak, ai, ap, an, ad, aA, aC, P⟩], by omega, trivial, by rw [List.length_append]; rfl, by go_num, trivial, trivial, trivial, trivial, HO7, xh (by rw [List.map_append, List.map_append, HOK.out] <;> rfl), xh (by have := HLE.out; simp only [List.length_append, List.length_cons, List.length_nil]; omega), HQN, HB7⟩
        case measure => simp [intOf]; omega
  ·obtain rfl : k = l.length := by omega
   have hltI : ¬ (l.length : Int) < (l.length : Int) := by omega
   have e : (O, (0 : Int)) = Q := by
    have := HQ.out
    rw [List.drop_length, rbR] at this
    exact this
   subst e
   clear HQ
   have GCx := xh (GCO.out wr A0 c0 out HO.out HB.out)
   have hkq := yy284 HOK.out
   rw [hkq] at GCx
   clear hkq GCO
   obtain ⟨rq, HRQ⟩ : ∃ r, Hid (rChk O = r) := ⟨_, xh rfl⟩
   simp only at HF3' HF4'
   rw [HRQ.out] at GCx HF3' HF4'
   go_wp2_with fail
   refine (GCx.out).mono ?_
   rintro e x2 ⟨rfl, hb⟩
   have HB0 : Hid (Below V w x2) := xh (HB.out.trans (hb.mono (by rw [HV.out]; exact HB.out.size)))
   have HO2 := xh (HO.out.below hb)
   clear hb GCx HB HO
   have HB := HB0
   clear HB0
   by_cases hrq : rq = 0
   rotate_left
   ·obtain rfl := HF3'.out (by trivial) hrq
    have HKE := xh (HKN.out hrq)
    have hrn2 : (rq != 0) = true := by simpa using hrq
    clear hrq HF2' HF4' HKY
    go_wp2
    go_ret3
    exact ⟨⟨none, 0, [], _, d, bs, rfl, ⟨.inl rfl, fun a ha => (by cases ha)⟩, fun y hy => (by cases hy), rfl, HBS.out _ HB.out, HKS.out.trans HKE.out.symm, HBG0.out⟩, HB.out⟩
   obtain rfl := HF4'.out (by trivial) hrq
   have HKE := xh (HKY.out (by trivial))
   have hrn2 : (rq != 0) = false := by rw [hrq]; rfl
   clear hrq HF2' HF3' HKY
   go_wp2_with fail
   refine (GL.out _ HB.out).mono ?_
   rintro e x9 ⟨⟨A2, c2, L2, rfl, hat, hk2, hg2⟩, hb⟩
   have HAT := xh hat
   have HK2 := xh hk2
   have HG2 := xh hg2
   replace HB := xh (HB.out.trans (hb.mono (by rw [HV.out]; exact HB.out.size)))
   have HO3 := xh (HO2.out.below hb)
   clear hb hat hk2 hg2
   go_wp2
   go_ret3
   exact ⟨⟨A0, c0, out, A2, c2, L2, rfl, HO3.out.acts (by rw [← HV.out]; exact HB.out), fun y hy => (HO3.out.made y hy).1, HOK.out, HAT.out, HK2.out.trans HKE.out.symm, HG2.out⟩, HB.out⟩
def ComB (y : CommitV) : Prop := (∀ a ∈ y.acts, ActB a) ∧ y.acts.length ≤ 1048576 ∧ y.acts.length ≤ y.actsC
def yy625 (w' : World) (R : List ActV × Int) (e : Ending) : Prop :=
 ∃ A' c' out V, e = .returned (.tuple #[.slice A' (List.length out) c', .int .i64 R.2]) ∧ OutS w' V A' c' out ∧ out.map aKey = R.1.map aKey
theorem yy656 {l : List ActV} {ks : List OneK} (_h : (rRb l ks).2 = 0) : (rRb l ks).1.length ≤ 20 := by
 unfold rRb
 split
 ·exact Nat.zero_le _
 split
 ·exact Nat.zero_le _
 split
 ·exact Nat.zero_le _
 ·rename_i h3
  have h4 : rChk (rbR ks [] l).1 = 0 := by
   by_cases g : rChk (rbR ks [] l).1 = 0
   ·exact g
   ·exact absurd g h3
  show (rbR ks [] l).1.length ≤ 20
  by_cases g : 20 < (rbR ks [] l).1.length
  ·rw [yy355 g] at h4
   cases h4
  ·omega
theorem yy426 {l m : List ActV} (h : l.map aKey = m.map aKey) : l.length = m.length := by have := congrArg List.length h; simpa using this
theorem yy257 {L : List OneV} {acts : List ActV} (h : L.map (·.k) = eff acts) (hg : ∀ a ∈ acts, ActH a) (hy : ∀ y ∈ L, y.Good) : L.length ≤ acts.length ∧ ∀ y ∈ L, y.Good ∧ KeyH y.k := by
 have h1 : L.length = (eff acts).length := by rw [← h, List.length_map]
 have h2 := yy501 acts
 refine ⟨by rw [h1]; unfold eff; rw [List.length_map]; exact h2, fun y hy2 => ⟨hy y hy2, yy684 hg _ ?_⟩⟩
 rw [← h]
 exact List.mem_map.2 ⟨y, hy2, rfl⟩
set_option maxHeartbeats 16000000 in
set_option maxRecDepth 100000 in
theorem yy388 (A : Option Addr) (c : Nat) (l : List ActV) (hl : l.length ≤ 1048576) (hg : ∀ a ∈ l, ActB a) (C : Option Addr) (d : Nat) (cs : List CommitV) (hcl : cs.length ≤ 1048576) (hcg : ∀ y ∈ cs, ComB y) (w : World) (hA : ActsAt w A l) (hB : yy52 w C cs) (hC : ConfAt w) :
  Calls Tryz.prog 11 #[.slice A l.length c, .slice C cs.length d] w fun e w' => yy625 w' (yy58 l (cs.map (·.acts))) e ∧ Below w.heap.size w w' := by
 obtain ⟨R, HR⟩ : ∃ R, Hid (yy58 l (cs.map (·.acts)) = R) := ⟨_, xh rfl⟩
 rw [HR.out]
 obtain ⟨V, hV⟩ : ∃ V, V = w.heap.size := ⟨_, rfl⟩
 have HA := xh (fun (X : World) (h : Below w.heap.size w X) => hA.below h)
 have HM := xh (fun (X : World) (h : Below w.heap.size w X) => hB.below h)
 have HCF := xh (fun (X : World) (h : Below w.heap.size w X) => hC.below h)
 have HG := xh hg
 have HCG := xh hcg
 clear hA hB hC hg hcg
 rw [← hV] at HA HM HCF ⊢
 have HV := xh hV
 clear hV
 have HB : Hid (Below V w w) := xh (Below.refl _ _)
 go_enter Tryz.func11, Tryz.ntmps11
 go_wp2
 go_loopw [6, 14] (fun s6 s14 wr => ∃ (k : Nat) (A0 : Option Addr) (c0 : Nat) (out : List ActV), k ≤ l.length ∧ s6 = .slice A0 out.length c0 ∧ s14 = .int .i64 (k : Int) ∧ Hid (OutS wr V A0 c0 out) ∧ Hid (out.map aKey = (l.take k).map aKey) ∧ Hid (out.length = k) ∧ Hid (Below V w wr)) (fun _ s14 _ => l.length - (intOf s14).toNat)
 case atStart => exact ⟨0, none, 0, [], Nat.zero_le _, rfl, rfl, xh ⟨OwnA.nil _ _, fun y h => by cases h⟩, xh rfl, xh rfl, HB⟩
 case round =>
  clear HB
  obtain ⟨k, A0, c0, out, hk, rfl, rfl, HO, HOK, HLE, HB⟩ := hrel
  by_cases hlt : k < l.length
  ·have hltI : (k : Int) < (l.length : Int) := by omega
   have hAw := HA.out _ HB.out
   obtain ⟨b, off, rfl, _⟩ := hAw.form (by omega)
   obtain ⟨z0, z1, z2, z3, z4, z5⟩ := hAw.at_ hlt
   have HCO := xh (hAw.2 _ (List.getElem_mem hlt))
   have HAB := xh (HG.out _ (List.getElem_mem hlt))
   have HTK : Hid ((l.take (k + 1)).map aKey = (l.take k).map aKey ++ [aKey l[k]]) := xh (by rw [List.take_succ_eq_append_getElem hlt, List.map_append]; rfl)
   clear hAw
   generalize l[k] = a at z0 z1 z2 z3 z4 z5 HCO HAB HTK
   have GO := xh (fun (X : World) (h : Below wr.heap.size wr X) => yy406 a HAB.out.1.2.1 HAB.out.1.2.2 X (HCO.out.below h))
   clear HCO
   obtain ⟨ak, ai, ap, an, ad, aA, aC, ao⟩ := a
   unfold yy0 at GO
   simp only at z0 z1 z2 z3 z4 z5 HAB HTK GO
   have HBX : Hid (Below wr.heap.size wr (wr.alloc (.cells #[.int .i64 ak, .int .i64 ai, .int .i64 ap, .string (bstr an), .bool ad, .slice aA ao.length aC] 26))) := xh ((Below.refl _ _).alloc (Nat.le_refl _) _)
   have hr6 := yy53 wr 26 (.int .i64 ak) (.int .i64 ai) (.int .i64 ap) (.string (bstr an)) (.bool ad) (.slice aA ao.length aC)
   obtain ⟨y0, y1, y2, y3, y4, y5⟩ := yy10 hr6
   clear hr6
   go_wp2_with fail
   refine (GO.out _ HBX.out).mono ?_
   rintro e x1 ⟨⟨A2, c2, rfl, h1, h2, hown⟩, hb⟩
   have HVB : Hid (V ≤ wr.heap.size) := xh (by rw [HV.out]; exact HB.out.size)
   have HB1 : Hid (Below wr.heap.size wr x1) := xh (HBX.out.trans (hb.mono HBX.out.size))
   have HOW := xh (yy36 hown (base' := V) (Nat.le_trans HVB.out HBX.out.size))
   have HO1 := xh (HO.out.below HB1.out)
   have HY : Hid (ActB ⟨ak, ai, ap, an, ad, A2, c2, ao⟩) := xh ⟨⟨⟨HAB.out.1.1.1, HAB.out.1.1.2.1, HAB.out.1.1.2.2.1, HAB.out.1.1.2.2.2.1, HAB.out.1.1.2.2.2.2.1, h1, h2⟩, HAB.out.1.2⟩, HAB.out.2⟩
   have HBL := xh ((Below.refl x1.heap.size x1).alloc (Nat.le_refl _) (Obj.cells (yy0 ⟨ak, ai, ap, an, ad, A2, c2, ao⟩).toArray 26))
   have hll : out.length ≤ 1048576 := by have := HLE.out; omega
   clear z0 z1 z2 z3 z4 z5 y0 y1 y2 y3 y4 y5 h1 h2 hown hb GO HO
   go_wp2_with (at_builtin
                go_loud (refine yy49 rfl (.tmp 18) (.tmp 21) rfl (B := V) (out := out) (m := [⟨ak, ai, ap, an, ad, A2, c2, ao⟩]) (HO1.out.own.below HBL.out) (Nat.le_trans (Nat.le_trans HVB.out HB1.out.size) HBL.out.size) 1 (yy229 x1 ⟨ak, ai, ap, an, ad, A2, c2, ao⟩ _ rfl) (by simp; omega) rfl rfl ?_)
                intro A7 c7 w7 hown hbel hkeep
                have HO7 : Hid (OutS w7 V A7 c7 (out ++ [⟨ak, ai, ap, an, ad, A2, c2, ao⟩])) := xh ⟨hown, fun z hz => by
                 rcases List.mem_append.1 hz with hz | hz
                 ·exact ⟨(HO1.out.made z hz).1, hkeep _ _ _ _ _ (own_below (HO1.out.made z hz).2 HBL.out)⟩
                 ·rw [List.mem_singleton.1 hz]; exact ⟨HY.out, hkeep _ _ _ _ _ (own_below HOW.out HBL.out)⟩⟩
                have HB7 : Hid (Below V w w7) := xh (((HB.out.trans (HB1.out.mono HVB.out)).trans (HBL.out.mono (Nat.le_trans HVB.out HB1.out.size))).trans hbel)
                clear hown hbel hkeep)
   go_roundw
   case rel => exact ⟨k + 1, A7, c7, _, by omega, by rw [List.length_append]; rfl, by go_num, HO7, xh (by rw [HTK.out, List.map_append, HOK.out]; rfl), xh (by rw [List.length_append, HLE.out]; rfl), HB7⟩
   case measure => simp [intOf]; omega
  ·obtain rfl : k = l.length := by omega
   have hltI : ¬ (l.length : Int) < (l.length : Int) := by omega
   rw [List.take_length] at HOK
   have HLE2 : Hid (out.length ≤ 1048576) := xh (by have := HLE.out; omega)
   clear HLE
   obtain ⟨w5, hw5⟩ : ∃ x, x = wr := ⟨wr, rfl⟩
   subst hw5
   go_wp2
   go_loopw [6, 26] (fun s6 s26 wr => ∃ (k : Nat) (A0 : Option Addr) (c0 : Nat) (out O : List ActV) (V0 : Nat), k ≤ cs.length ∧ s6 = .slice A0 out.length c0 ∧ s26 = .int .i64 (k : Int) ∧ Hid (OutS wr V0 A0 c0 out) ∧ Hid (out.map aKey = O.map aKey) ∧ Hid (out.length ≤ 1048576) ∧ Hid (yy58 O ((cs.drop k).map (·.acts)) = R) ∧ Hid (Below V w wr)) (fun _ s26 _ => cs.length - (intOf s26).toNat)
   case atStart => exact ⟨0, A0, c0, out, l, V, Nat.zero_le _, rfl, rfl, HO, HOK, HLE2, HR, HB⟩
   case round =>
    clear HB HO HOK HLE2 HR
    obtain ⟨k, A0, c0, out, O, V0, hk, rfl, rfl, HO, HOK, HLE, HR, HB⟩ := hrel
    by_cases hlt : k < cs.length
    ·have hltI2 : (k : Int) < (cs.length : Int) := by omega
     have hMw := HM.out _ HB.out
     obtain ⟨b, off, rfl, _⟩ := hMw.form (by omega)
     obtain ⟨z0, z1, z2, z3⟩ := hMw.at_ hlt
     have HCA := xh (hMw.2 _ (List.getElem_mem hlt))
     have HCB := xh (HCG.out _ (List.getElem_mem hlt))
     have HR2 : Hid (yy58 O (cs[k].acts :: (cs.drop (k + 1)).map (·.acts)) = R) := xh (by rw [← HR.out, List.drop_eq_getElem_cons hlt]; rfl)
     clear hMw HR
     generalize cs[k] = y at z0 z1 z2 z3 HCA HCB HR2
     have GO := xh (fun (X : World) (h : Below wr.heap.size wr X) => yy424 y.actsA y.actsC y.acts HCB.out.2.1 HCB.out.2.2 (fun a ha => (HCB.out.1 a ha).1) X (HCA.out.below h))
     have HEH := xh (fun (L : List OneV) (h : L.map (·.k) = eff y.acts) (h2 : ∀ z ∈ L, z.Good) => yy257 h (fun a ha => (HCB.out.1 a ha).1) h2)
     have HYL := xh HCB.out.2.1
     obtain ⟨yr, yc, ys, yA, yC, ya⟩ := y
     simp only at z0 z1 z2 z3 HR2 GO HEH HYL
     have HBX : Hid (Below wr.heap.size wr (wr.alloc (.cells #[.int .i64 yr, .int .i64 yc, .int .i64 ys, .slice yA ya.length yC] 58))) := xh ((Below.refl _ _).alloc (Nat.le_refl _) _)
     clear HCA HCB
     have hVB : V ≤ wr.heap.size := by rw [HV.out]; exact HB.out.size
     have HVB := xh hVB
     clear hVB
     have HE1 : Hid ((rRb O (eff ya)).2 ≠ 0 → R = ([], (rRb O (eff ya)).2)) := xh (fun h => by rw [← HR2.out]; exact yy223 h)
     have HE2 : Hid ((rRb O (eff ya)).2 = 0 → yy58 (rRb O (eff ya)).1 ((cs.drop (k + 1)).map (·.acts)) = R) := xh (fun h => by rw [← HR2.out]; exact (yy312 h).symm)
     have HKE := xh (yy648 (eff ya) HOK.out)
     have HLN := xh (yy656 (l := out) (ks := eff ya))
     clear HR2 HOK
     go_wp2_with fail
     refine (GO.out _ HBX.out).mono ?_
     rintro e x1 ⟨⟨v, rfl, A1, c1, L, rfl, hat, hk1, hgd, hc1⟩, hb⟩
     have HB1 : Hid (Below wr.heap.size wr x1) := xh (HBX.out.trans (hb.mono HBX.out.size))
     obtain ⟨hLl, hLk⟩ := HEH.out L hk1 hgd
     have HO1 := xh (HO.out.below HB1.out)
     have GV := xh (yy235 A0 c0 out HLE.out HO1.out.own.cap (fun a ha => (HO1.out.made a ha).1) A1 c1 L (Nat.le_trans hLl HYL.out) hc1 hLk x1 HO1.out.acts hat (HCF.out _ (HB.out.trans (HB1.out.mono HVB.out))))
     rw [hk1] at GV
     generalize rRb O (eff ya) = Q at HE1 HE2 HKE
     obtain ⟨P, HP⟩ : ∃ P, Hid (rRb out (eff ya) = P) := ⟨_, xh rfl⟩
     rw [HP.out] at GV HKE HLN
     generalize yy106 out (eff ya) = K at GV
     clear HP z0 z1 z2 z3 hat hk1 hgd hc1 hb hLl hLk GO HEH HO HLE
     go_wp2_with fail
     refine (GV.out).mono ?_
     rintro e x2 ⟨⟨A3, c3, o3, v3, V3, rfl, ho3, hk3, _⟩, hb⟩
     have HB2 : Hid (Below V w x2) := xh ((HB.out.trans (HB1.out.mono HVB.out)).trans (hb.mono (Nat.le_trans HVB.out HB1.out.size)))
     have HO3 := xh ho3
     have HK3 := xh hk3
     clear hb ho3 hk3 GV HB HB1 HO1
     obtain ⟨P1, P2⟩ := P
     obtain ⟨Q1, Q2⟩ := Q
     simp only at HKE HLN HE1 HE2 HK3
     obtain rfl : P2 = Q2 := HKE.out.1
     by_cases hq : P2 = 0
     ·have HR3 := xh (HE2.out hq)
      have HL3 : Hid (o3.length ≤ 1048576) := xh (by have := yy426 HK3.out; have := HLN.out hq; omega)
      have hqn : (P2 != 0) = false := by rw [hq]; rfl
      clear hq HE1 HE2 HLN
      go_wp2
      go_roundw
      case rel => exact ⟨k + 1, A3, c3, o3, Q1, V3, by omega, rfl, by go_num, HO3, xh (by rw [HK3.out, HKE.out.2]), HL3, HR3, HB2⟩
      case measure => simp [intOf]; omega
     ·obtain rfl := HE1.out hq
      have hqn : (P2 != 0) = true := by simpa using hq
      clear hq HE1 HE2 HLN
      go_wp2
      go_ret2
      exact ⟨⟨none, 0, [], 0, rfl, ⟨OwnA.nil _ _, fun y h => by cases h⟩, rfl⟩, HB2.out⟩
    ·obtain rfl : k = cs.length := by omega
     have hltI2 : ¬ (cs.length : Int) < (cs.length : Int) := by omega
     have e : (O, (0 : Int)) = R := by
      have := HR.out
      rw [List.drop_length, List.map_nil, yy445] at this
      exact this
     subst e
     go_wp2
     go_ret2
     exact ⟨⟨A0, c0, out, V0, rfl, HO.out, HOK.out⟩, HB.out⟩
set_option maxHeartbeats 16000000 in
set_option maxRecDepth 100000 in
theorem yy290 (A : Option Addr) (c : Nat) (l : List ActV) (hl : l.length ≤ 1048576) (hg : ∀ a ∈ l, ActB a) (C : Option Addr) (d : Nat) (cs : List CommitV) (hcl : cs.length ≤ 1048576) (hcg : ∀ y ∈ cs, ComB y) (w : World) (hA : ActsAt w A l) (hB : yy52 w C cs) :
  Calls Tryz.prog 12 #[.slice A l.length c, .slice C cs.length d] w fun e w' => (∃ A' c' out, e = .returned (.tuple #[.slice A' (List.length out) c', .int .i64 (yy58 l (cs.map (·.acts))).2]) ∧ ActsAt w' A' out ∧ (∀ y ∈ out, ActB y) ∧ out.map aKey = (yy58 l (cs.map (·.acts))).1.map aKey) ∧ Below w.heap.size w w' := by
 obtain ⟨R, HR⟩ : ∃ R, Hid (yy58 l (cs.map (·.acts)) = R) := ⟨_, xh rfl⟩
 rw [HR.out]
 have HM := xh (fun (X : World) (h : Below w.heap.size w X) => hB.below h)
 have HA0 := xh hA
 have HG := xh hg
 have HCG := xh hcg
 have HLL := xh hl
 clear hA hB hg hcg hl
 have HB := xh (Below.refl w.heap.size w)
 go_enter Tryz.func12, Tryz.ntmps12
 go_wp2
 go_loopw [0, 6, 7, 8, 9] (fun s0 s6 s7 s8 s9 wr => ∃ (k : Nat) (A0 : Option Addr) (c0 : Nat) (out O : List ActV), k ≤ cs.length ∧ s0 = .slice A0 out.length c0 ∧ s6 = .int .i64 (k : Int) ∧ s7 = s7 ∧ s8 = s8 ∧ s9 = s9 ∧ Hid (ActsAt wr A0 out) ∧ Hid (∀ y ∈ out, ActB y) ∧ Hid (out.map aKey = O.map aKey) ∧ Hid (out.length ≤ 1048576) ∧ Hid (yy58 O ((cs.drop k).map (·.acts)) = R) ∧ Hid (Below w.heap.size w wr)) (fun _ s6 _ _ _ _ => cs.length - (intOf s6).toNat)
 case atStart => exact ⟨0, A, c, l, l, Nat.zero_le _, rfl, rfl, rfl, rfl, rfl, HA0, HG, xh rfl, HLL, HR, HB⟩
 case round =>
  clear HB HA0 HG HLL HR
  obtain ⟨k, A0, c0, out, O, hk, rfl, rfl, _, _, _, HO, HOG, HOK, HLE, HR, HB⟩ := hrel
  by_cases hlt : k < cs.length
  ·have hltI2 : (k : Int) < (cs.length : Int) := by omega
   have hMw := HM.out _ HB.out
   obtain ⟨b, off, rfl, _⟩ := hMw.form (by omega)
   obtain ⟨z0, z1, z2, z3⟩ := hMw.at_ hlt
   have HCA := xh (hMw.2 _ (List.getElem_mem hlt))
   have HCB := xh (HCG.out _ (List.getElem_mem hlt))
   have HR2 : Hid (yy58 O (cs[k].acts :: (cs.drop (k + 1)).map (·.acts)) = R) := xh (by rw [← HR.out, List.drop_eq_getElem_cons hlt]; rfl)
   clear hMw HR z0 z1 z2
   generalize cs[k] = y at z3 HCA HCB HR2
   obtain ⟨yr, yc, ys, yA, yC, ya⟩ := y
   simp only at z3 HR2 HCA HCB
   have GE := xh (yy562 yA yC ya HCB.out.2.1 (fun a ha => (HCB.out.1 a ha).1.1) wr HCA.out)
   have HEH := xh (fun (L : List OneV) (h : L.map (·.k) = eff ya) (h2 : ∀ z ∈ L, z.Good) => yy257 h (fun a ha => (HCB.out.1 a ha).1) h2)
   have HYL := xh HCB.out.2.1
   have HE1 : Hid ((rRb O (eff ya)).2 ≠ 0 → R = ([], (rRb O (eff ya)).2)) := xh (fun h => by rw [← HR2.out]; exact yy223 h)
   have HE2 : Hid ((rRb O (eff ya)).2 = 0 → yy58 (rRb O (eff ya)).1 ((cs.drop (k + 1)).map (·.acts)) = R) := xh (fun h => by rw [← HR2.out]; exact (yy312 h).symm)
   have HKE := xh (yy648 (eff ya) HOK.out)
   have HLN : Hid ((rRb O (eff ya)).2 = 0 → (rRb O (eff ya)).1.length ≤ 20) := xh (fun h => yy656 h)
   clear HCA HCB HR2
   go_wp2_with fail
   refine GE.out.mono ?_
   rintro e x2 ⟨⟨A4, c4, L, rfl, hat, hk4, hgd⟩, hb⟩
   replace HO := xh (HO.out.below hb)
   replace HB := xh (HB.out.trans (hb.mono HB.out.size))
   obtain ⟨hL1, hL2⟩ := HEH.out L hk4 hgd
   have GV := xh (yy236 A0 c0 out HLE.out HOG.out A4 c4 L (by have := HYL.out; omega) hL2 x2 HO.out hat)
   rw [hk4] at GV
   clear hat hk4 hgd hL1 hL2 hb GE HEH z3
   generalize yy106 out (eff ya) = KK at GV
   obtain ⟨T, HT⟩ : ∃ T, Hid (rRb O (eff ya) = T) := ⟨_, xh rfl⟩
   obtain ⟨U, HU⟩ : ∃ U, Hid (rRb out (eff ya) = U) := ⟨_, xh rfl⟩
   rw [HT.out] at HE1 HE2 HKE HLN
   rw [HU.out] at GV HKE
   clear HT HU
   go_wp2_with fail
   refine GV.out.mono ?_
   rintro e x3 ⟨⟨A5, c5, o5, A6, c6, L6, rfl, ho, hog, hok, _, _, _⟩, hb⟩
   have HO5 := xh ho
   have HG5 := xh hog
   replace HB := xh (HB.out.trans (hb.mono HB.out.size))
   have HK5 : Hid (o5.map aKey = T.1.map aKey) := xh (hok.trans HKE.out.2)
   have HUT : Hid (U.2 = T.2) := xh HKE.out.1
   rw [HUT.out]
   clear ho hog hok hb GV HO HOG HOK HKE HUT
   by_cases hu : T.2 = 0
   ·have hun : (T.2 != 0) = false := by rw [hu]; rfl
    have HQ := xh (HE2.out hu)
    have HL5 : Hid (o5.length ≤ 1048576) := xh (by
     have h1 := yy426 HK5.out
     have h2 := HLN.out hu
     omega)
    clear hu HE1 HE2 HLN
    go_wp2_with fail
    go_roundw
    case rel => exact ⟨k + 1, A5, c5, o5, T.1, by omega, rfl, by go_num, trivial, trivial, trivial, HO5, HG5, HK5, HL5, HQ, HB⟩
    case measure => simp [intOf]; omega
   ·have hun : (T.2 != 0) = true := by simpa using hu
    obtain rfl := HE1.out hu
    clear hu HE1 HE2 HLN
    go_wp2
    go_ret2
    exact ⟨⟨none, 0, [], rfl, ⟨.inl rfl, fun a ha => (by cases ha)⟩, fun y hy => (by cases hy), rfl⟩, HB.out⟩
  ·obtain rfl : k = cs.length := by omega
   have hltI2 : ¬ (cs.length : Int) < (cs.length : Int) := by omega
   have e : (O, (0 : Int)) = R := by
    have := HR.out
    rw [List.drop_length, List.map_nil, yy58] at this
    exact this
   subst e
   clear HR
   go_wp2
   go_ret2
   exact ⟨⟨A0, c0, out, rfl, HO.out, HOG.out, HOK.out⟩, HB.out⟩
theorem yy566 {l : List ActV} {a : ActV} (h : l.map aKey = [a].map aKey) : ∃ y, l = [y] ∧ aKey y = aKey a := by
 cases l with
 | nil => cases h
 | cons y l =>
  cases l with
  | nil =>
   simp only [List.map_cons, List.map_nil, List.cons.injEq, and_true] at h
   exact ⟨y, rfl, h⟩
  | cons z l => simp at h
theorem yy258 {l : List ActV} (h : l.map aKey = ([] : List ActV).map aKey) : l = [] := by
 cases l with
 | nil => rfl
 | cons y l => cases h
theorem yy428 (x : World) (y : ActV) (hc : yy8 x y.opsA y.ops) (g : Nat) (hg : g = x.heap.size) : ActsAt (x.alloc (.cells (yy0 y).toArray 26)) (some ⟨g, 0, none⟩) [y] := by
 refine ⟨yy7.lit (fun j v h => by rw [← Array.getElem?_toList]; exact h) hg, fun z hz => ?_⟩
 rw [List.mem_singleton.1 hz]
 exact hc.below ((Below.refl _ _).alloc (Nat.le_refl _) _)
theorem yy627 (x : World) (y z : ActV) (hy : yy8 x y.opsA y.ops) (hz : yy8 x z.opsA z.ops) (g : Nat) (hg : g = x.heap.size) : ActsAt (x.alloc (.cells (yy0 y ++ yy0 z).toArray 26)) (some ⟨g, 0, none⟩) [y, z] := by
 refine ⟨yy7.lit (fun j v h => by rw [← Array.getElem?_toList]; exact h) hg, fun u hu => ?_⟩
 have hu' : u = y ∨ u = z := by simpa using hu
 rcases hu' with rfl | rfl
 ·exact hy.below ((Below.refl _ _).alloc (Nat.le_refl _) _)
 ·exact hz.below ((Below.refl _ _).alloc (Nat.le_refl _) _)
theorem edE_b {id : Int} (hid : 0 ≤ id ∧ id ≤ 1099511627776) (A : Option Addr) {c : Nat} {a : List CompV} (ha : Held1 a) (ht : tlen a ≤ 4000) (hc : a.length ≤ c) (hm : c ≤ maxLen) : ActB (edE id A c a) :=
 ⟨⟨⟨by show Fit64 4; unfold Fit64; omega, by show Fit64 id; unfold Fit64; omega, by show Fit64 0; unfold Fit64; omega, ⟨by simp [edE], by simp [edE]⟩, ha.good, hc, hm⟩, ha, by simp [edE]⟩, by simp [edE], ht⟩
theorem rmE_b {id : Int} (hid : 0 ≤ id ∧ id ≤ 1099511627776) : ActB (rmE id) :=
 ⟨⟨⟨by show Fit64 2; unfold Fit64; omega, by show Fit64 id; unfold Fit64; omega, by show Fit64 0; unfold Fit64; omega, ⟨by simp [rmE], by simp [rmE]⟩, fun y hy => (by cases hy), Nat.le_refl _, Nat.zero_le _⟩, yy172, by simp [rmE]⟩, by simp [rmE], by simp [rmE, tlen]⟩
theorem yy716 {L : List OneV} (h : L.map (·.k) = awK) (hg : ∀ y ∈ L, y.Good) : L.length ≤ 1048576 ∧ ∀ y ∈ L, y.Good ∧ KeyH y.k := by
 refine ⟨by have := congrArg List.length h; simp [awK] at this; omega, fun y hy => ⟨hg y hy, ?_⟩⟩
 have hm : y.k ∈ awK := by rw [← h]; exact List.mem_map.2 ⟨y, hy, rfl⟩
 have hm' : y.k = ⟨1, insX, true, false, false, false, 0, []⟩ ∨ y.k = ⟨2, [], false, true, false, false, 0, []⟩ := by simpa [awK] using hm
 rcases hm' with e | e
 ·rw [e]; exact ⟨yy334.2.2.2, Nat.zero_le _⟩
 ·rw [e]; exact ⟨yy172, Nat.zero_le _⟩
set_option maxHeartbeats 8000000 in
set_option maxRecDepth 100000 in
theorem yy567 (w : World) (hC : ConfAt w) : Calls Tryz.prog 7 #[] w fun e w' => e = .returned (.bool true) ∧ Below w.heap.size w w' := by
 obtain ⟨gi, hgi⟩ : ∃ g, g = w.heap.size := ⟨_, rfl⟩
 have hi : yy8 (w.alloc (.cells #[.int .i64 2, .int .i64 0, .string { data := #[120] }] 60)) (some ⟨gi, 0, none⟩) insX := yy7.lit (fun j v h => by rw [← Array.getElem?_toList]; exact h) hgi
 have hb1 := (Below.refl w.heap.size w).alloc (Nat.le_refl _) (.cells #[.int .i64 2, .int .i64 0, .string { data := #[120] }] 60)
 have h2 : ActsAt ((w.alloc (.cells #[.int .i64 2, .int .i64 0, .string { data := #[120] }] 60)).alloc (.cells #[.int .i64 4, .int .i64 1, .int .i64 0, .string { data := #[] }, .bool false, .slice (some ⟨gi, 0, none⟩) 1 1, .int .i64 2, .int .i64 2, .int .i64 0, .string { data := #[] }, .bool false, .slice none 0 0] 26)) (some ⟨gi + 1, 0, none⟩) [edE 1 (some ⟨gi, 0, none⟩) 1 insX, rmE 2] := yy627 (w.alloc (.cells #[.int .i64 2, .int .i64 0, .string { data := #[120] }] 60)) (edE 1 (some ⟨gi, 0, none⟩) 1 insX) (rmE 2) hi (.inl rfl) (gi + 1) (by rw [World.size_alloc, hgi])
 have hb2 := (Below.refl (w.alloc (.cells #[.int .i64 2, .int .i64 0, .string { data := #[120] }] 60)).heap.size (w.alloc (.cells #[.int .i64 2, .int .i64 0, .string { data := #[120] }] 60))).alloc (Nat.le_refl _) (.cells #[.int .i64 4, .int .i64 1, .int .i64 0, .string { data := #[] }, .bool false, .slice (some ⟨gi, 0, none⟩) 1 1, .int .i64 2, .int .i64 2, .int .i64 0, .string { data := #[] }, .bool false, .slice none 0 0] 26)
 have HEB := xh (fun (id : Int) (hid : 0 ≤ id ∧ id ≤ 1099511627776) => edE_b hid (some ⟨gi, 0, none⟩) (c := 1) yy334.2.2.2 (by simp [insX, tlen]) (by simp [insX]) (by simp [maxLen]))
 have GO := xh (yy424 (some ⟨gi + 1, 0, none⟩) 2 [edE 1 (some ⟨gi, 0, none⟩) 1 insX, rmE 2] (by simp) (by simp) (fun a ha => by
  have ha' : a = edE 1 (some ⟨gi, 0, none⟩) 1 insX ∨ a = rmE 2 := by simpa using ha
  rcases ha' with rfl | rfl
  ·exact (HEB.out 1 (by omega)).1
  ·exact (rmE_b (by omega)).1) _ h2)
 rw [aw_eff] at GO
 simp only [List.length_cons, List.length_nil, Nat.zero_add, Nat.reduceAdd] at GO
 have HI := xh (hi.below hb2)
 have HB := xh (hb1.trans (hb2.mono hb1.size))
 have HCF := xh (hC.below HB.out)
 have HGI := xh hgi
 clear hi hb1 hb2 h2 hC hgi
 go_enter Tryz.func7, Tryz.ntmps7
 go_upto_region 2 with fail
 rw [← HGI.out]
 go_wp2_with fail
 rw [← HGI.out]
 refine GO.out.mono ?_
 rintro e w1 ⟨⟨v, rfl, A1, c1, L, rfl, hat, hk, hgood, hcap⟩, hb⟩
 replace HB := xh (HB.out.trans (hb.mono HB.out.size))
 replace HI := xh (HI.out.below hb)
 replace HCF := xh (HCF.out.below hb)
 have HAT := xh hat
 have hLL := yy716 hk hgood
 have GV := xh (fun (X : World) (y : ActV) (hy : ActB y) (hc : yy8 X y.opsA y.ops) (hx : OnesAt X A1 L) (hf : ConfAt X) (g : Nat) (hg : g = X.heap.size) => yy235 (some ⟨g, 0, none⟩) 1 [y] (by simp) (by simp) (fun a ha => by rw [List.mem_singleton.1 ha]; exact hy) A1 c1 L hLL.1 hcap hLL.2 _ (yy428 X y hc g hg) (hx.below ((Below.refl _ _).alloc (Nat.le_refl _) _)) (hf.below ((Below.refl _ _).alloc (Nat.le_refl _) _)))
 have GW := xh (fun (X : World) (hx : OnesAt X A1 L) (hf : ConfAt X) => yy534 A1 c1 L (rmE 1) hLL.1 hLL.2 ⟨fun x hx => (by cases hx), Nat.zero_le _⟩ X hx hf)
 rw [hk] at GV GW
 rw [aw_why] at GW
 have G1 := xh (fun (X : World) (hc : yy8 X (some ⟨gi, 0, none⟩) insX) (hx : OnesAt X A1 L) (hf : ConfAt X) (g : Nat) (hg : g = X.heap.size) => (show Calls Tryz.prog 8 _ (X.alloc (.cells #[.int .i64 4, .int .i64 1, .int .i64 0, .string { data := #[] }, .bool false, .slice (some ⟨gi, 0, none⟩) 1 1] 26)) _ from GV.out X (edE 1 (some ⟨gi, 0, none⟩) 1 insX) (HEB.out 1 (by omega)) hc hx hf g hg))
 have G2 := xh (fun (X : World) (hc : yy8 X (some ⟨gi, 0, none⟩) insX) (hx : OnesAt X A1 L) (hf : ConfAt X) (g : Nat) (hg : g = X.heap.size) => (show Calls Tryz.prog 8 _ (X.alloc (.cells #[.int .i64 4, .int .i64 2, .int .i64 0, .string { data := #[] }, .bool false, .slice (some ⟨gi, 0, none⟩) 1 1] 26)) _ from GV.out X (edE 2 (some ⟨gi, 0, none⟩) 1 insX) (HEB.out 2 (by omega)) hc hx hf g hg))
 have G3 := xh (fun (X : World) (hx : OnesAt X A1 L) (hf : ConfAt X) (g : Nat) (hg : g = X.heap.size) => (show Calls Tryz.prog 8 _ (X.alloc (.cells #[.int .i64 2, .int .i64 2, .int .i64 0, .string { data := #[] }, .bool false, .slice none 0 0] 26)) _ from GV.out X (rmE 2) (rmE_b (by omega)) (.inl rfl) hx hf g hg))
 rw [yy761] at G1
 rw [yy762] at G2
 rw [aw_rm] at G3
 simp only [List.length_cons, List.length_nil, Nat.zero_add] at G1 G2 G3
 clear hb GO hcap hat hk hgood hLL GV HEB HGI
 go_wp2_with fail
 refine (G1.out _ HI.out HAT.out HCF.out _ (by simp)).mono ?_
 rintro e w2 ⟨⟨A3, c3, o3, v3, V3, rfl, ho, hk, -⟩, hb⟩
 have hbz := ((Below.refl w1.heap.size w1).alloc (Nat.le_refl _) (.cells #[.int .i64 4, .int .i64 1, .int .i64 0, .string { data := #[] }, .bool false, .slice (some ⟨gi, 0, none⟩) 1 1] 26)).trans (hb.mono (by simp))
 replace HB := xh (HB.out.trans (hbz.mono HB.out.size))
 replace HI := xh (HI.out.below hbz)
 replace HCF := xh (HCF.out.below hbz)
 replace HAT := xh (HAT.out.below hbz)
 obtain ⟨y, rfl, hy⟩ := yy566 hk
 obtain ⟨yk, yi, yp, yn, yd, yA, yC, yo⟩ := y
 obtain ⟨_, _, _, _, _, rfl⟩ := yy515.1 hy
 have HO := xh ho.acts
 obtain ⟨b3, of3, rfl, _⟩ := HO.out.form (by simp)
 clear hb hbz ho hk hy G1
 simp only [List.length_cons, List.length_nil, Nat.zero_add]
 go_wp2_with fail
 refine (G2.out _ HI.out HAT.out HCF.out _ (by simp)).mono ?_
 rintro e w3 ⟨⟨A4, c4, o4, v4, V4, rfl, ho, hk, -⟩, hb⟩
 have hbz := ((Below.refl w2.heap.size w2).alloc (Nat.le_refl _) (.cells #[.int .i64 4, .int .i64 2, .int .i64 0, .string { data := #[] }, .bool false, .slice (some ⟨gi, 0, none⟩) 1 1] 26)).trans (hb.mono (by simp))
 replace HB := xh (HB.out.trans (hbz.mono HB.out.size))
 replace HI := xh (HI.out.below hbz)
 replace HCF := xh (HCF.out.below hbz)
 replace HAT := xh (HAT.out.below hbz)
 replace HO := xh (HO.out.below hbz)
 obtain rfl := yy258 hk
 clear hb hbz ho hk G2
 go_wp2_with fail
 refine (G3.out _ HAT.out HCF.out _ (by simp)).mono ?_
 rintro e w4 ⟨⟨A5, c5, o5, v5, V5, rfl, ho, hk, -⟩, hb⟩
 have hbz := ((Below.refl w3.heap.size w3).alloc (Nat.le_refl _) (.cells #[.int .i64 2, .int .i64 2, .int .i64 0, .string { data := #[] }, .bool false, .slice none 0 0] 26)).trans (hb.mono (by simp))
 replace HB := xh (HB.out.trans (hbz.mono HB.out.size))
 replace HI := xh (HI.out.below hbz)
 replace HCF := xh (HCF.out.below hbz)
 replace HAT := xh (HAT.out.below hbz)
 replace HO := xh (HO.out.below hbz)
 obtain rfl := yy258 hk
 clear hb hbz ho hk G3
 simp only [List.length_nil]
 have z5 := (HO.out.at_ (i := 0) (by simp)).2.2.2.2.2
 simp only [List.getElem_cons_zero, Nat.zero_mul, Nat.add_zero] at z5
 replace z5 : w4.cell? ⟨b3, of3 + 5, none⟩ = some (.slice yA 2 yC) := z5
 unfold yy0 rmE at GW
 simp only [List.length_nil] at GW
 go_wp2_with fail
 refine (GW.out _ HAT.out HCF.out).mono ?_
 rintro e w5 ⟨rfl, hb⟩
 replace HB := xh (HB.out.trans (hb.mono HB.out.size))
 clear hb z5 GW
 go_wp2
 go_ret
 exact ⟨rfl, HB.out⟩
end Go.Proofs.YtjpjdkdbgjipnaaGreatDoor
