/- What an edit did, seen from behind another one, does there what it did: both orders make one text: it answers true and changes nothing. No condition. (Merged of 2 texts.) -/
import Derived.Test.YtnadhpajelkngaaKKit
import Derived.ChangeMaps5
/- EffectSees, walked: what an edit did, seen from behind another one, does there what it did: both orders make one text. Condition: what memory may hold. -/
namespace Go.Proofs.Ytnadhpajelkngaa
open Go.RowKit Go.Deep

set_option maxHeartbeats 8000000 in
set_option maxRecDepth 100000 in
theorem effectSees_any (s : List Nat) (A : Option Addr) (a : List CompV) (ca : Nat) (B : Option Addr) (b : List CompV) (cb : Nat) (hsb : ∀ x ∈ s, x < 256) (hsl : s.length ≤ maxLen) (hla : a.length ≤ maxLen) (hga : ∀ y ∈ a, y.Good) (hlb : b.length ≤ maxLen) (hgb : ∀ y ∈ b, y.Good) (w : World) (hA : CompsC w A ca a) (hB : CompsC w B cb b) (hca : ca ≤ maxLen) (hcb : cb ≤ maxLen) :
    Calls Try.prog 3 #[.string (bstr s), .slice A a.length ca, .slice B b.length cb] w fun e w' => e = .returned (.bool true) ∧ Below w.heap.size w w' := by
  have hsz := bstr_size s
  unfold maxLen at hsl
  have GA := Lib.hid (fun w => eawake_any w)
  have GWa := Lib.hid (fun w h => alikeComps_c 1000 ca hla hga w (A := A) h)
  have GWb := Lib.hid (fun w h => alikeComps_c 1000 cb hlb hgb w (A := B) h)
  have HA := Lib.hid hA
  have HB := Lib.hid hB
  have HAC := Lib.hid hA.2
  have HBC := Lib.hid hB.2
  have HCA := Lib.hid hca
  have HCB := Lib.hid hcb
  clear hA hB hla hlb hca hcb
  obtain ⟨Ta, HTa⟩ : ∃ x, Hid (compsWeight 1000 a = x) := ⟨_, rfl⟩
  obtain ⟨Tb, HTb⟩ : ∃ x, Hid (compsWeight 1000 b = x) := ⟨_, rfl⟩
  rw [HTa.out] at GWa
  rw [HTb.out] at GWb
  have HW0 := Lib.hid (Below.refl w.heap.size w)
  by_cases g0 : 300 < s.length
  · clear hga hgb hsb
    go_enter Try.func3, Try.ntmps3
    go_wp2_with fail
    refine (GA.out _).mono ?_
    rintro e w1 ⟨rfl, hb⟩
    have HW1 : Hid (Below w.heap.size w w1) := HW0.out.trans (hb.mono HW0.out.size)
    replace HA := Lib.hid (HA.out.below hb)
    replace HB := Lib.hid (HB.out.below hb)
    clear hb
    go_wp2
    go_ret
    exact ⟨rfl, HW1.out⟩
  have HSB := Lib.hid hsb
  clear hsb
  by_cases g1 : 1000 < Ta
  · clear hga hgb
    go_enter Try.func3, Try.ntmps3
    go_wp2_with fail
    refine (GWa.out _ HA.out).mono ?_
    rintro e w1 ⟨rfl, hb⟩
    have HW1 : Hid (Below w.heap.size w w1) := HW0.out.trans (hb.mono HW0.out.size)
    replace HA := Lib.hid (HA.out.below hb)
    replace HB := Lib.hid (HB.out.below hb)
    clear hb
    go_wp2_with fail
    refine (GA.out _).mono ?_
    rintro e w2 ⟨rfl, hb⟩
    have HW2 : Hid (Below w.heap.size w w2) := HW1.out.trans (hb.mono HW1.out.size)
    replace HA := Lib.hid (HA.out.below hb)
    replace HB := Lib.hid (HB.out.below hb)
    clear hb
    go_wp2
    go_ret
    exact ⟨rfl, HW2.out⟩
  by_cases g2 : 1000 < Tb
  · clear hga hgb
    go_enter Try.func3, Try.ntmps3
    go_wp2_with fail
    refine (GWa.out _ HA.out).mono ?_
    rintro e w1 ⟨rfl, hb⟩
    have HW1 : Hid (Below w.heap.size w w1) := HW0.out.trans (hb.mono HW0.out.size)
    replace HA := Lib.hid (HA.out.below hb)
    replace HB := Lib.hid (HB.out.below hb)
    clear hb
    go_wp2_with fail
    refine (GWb.out _ HB.out).mono ?_
    rintro e w2 ⟨rfl, hb⟩
    have HW2 : Hid (Below w.heap.size w w2) := HW1.out.trans (hb.mono HW1.out.size)
    replace HA := Lib.hid (HA.out.below hb)
    replace HB := Lib.hid (HB.out.below hb)
    clear hb
    go_wp2_with fail
    refine (GA.out _).mono ?_
    rintro e w3 ⟨rfl, hb⟩
    have HW3 : Hid (Below w.heap.size w w3) := HW2.out.trans (hb.mono HW2.out.size)
    replace HA := Lib.hid (HA.out.below hb)
    replace HB := Lib.hid (HB.out.below hb)
    clear hb
    go_wp2
    go_ret
    exact ⟨rfl, HW3.out⟩
  have HEa := Lib.hid (held_of hga (weight_spec 1000 (by omega) a (by rw [HTa.out]; omega)) (by omega))
  have HEb := Lib.hid (held_of hgb (weight_spec 1000 (by omega) b (by rw [HTb.out]; omega)) (by omega))
  clear hga hgb
  have HSL : Hid (s.length ≤ 1073741824) := by show _ ≤ _; omega
  obtain ⟨X, HX⟩ : ∃ X, Hid (dTxt s a = X) := ⟨_, Lib.hid rfl⟩
  have HXS := Lib.hid (dTxt_small s a)
  rw [HX.out] at HXS
  obtain ⟨Y, HY⟩ : ∃ Y, Hid (dTxt s b = Y) := ⟨_, Lib.hid rfl⟩
  have HYS := Lib.hid (dTxt_small s b)
  rw [HY.out] at HYS
  by_cases e1 : dErr s a = 0
  rotate_left
  · obtain ⟨q, HQ⟩ : ∃ q, Hid (dErr s a = q) := ⟨_, Lib.hid rfl⟩
    have KD1 := Lib.hid (fun w h => kRefDo HX.out HQ.out HSB.out HSL.out HEa.out A ca w h)
    have KD2 := Lib.hid (fun w h => kRefDo HY.out (rfl : dErr s b = dErr s b) HSB.out HSL.out HEb.out B cb w h)
    rw [HQ.out] at e1
    have hq : ((q : Int) != 0) = true := bne_iff_ne.2 (by omega)
    clear e1
    generalize dErr s b = r at KD2
    go_enter Try.func3, Try.ntmps3
    go_wp2_with fail
    refine (GWa.out _ HA.out).mono ?_
    rintro e w1 ⟨rfl, hb⟩
    have HW1 : Hid (Below w.heap.size w w1) := HW0.out.trans (hb.mono HW0.out.size)
    replace HA := Lib.hid (HA.out.below hb)
    replace HB := Lib.hid (HB.out.below hb)
    clear hb
    go_wp2_with fail
    refine (GWb.out _ HB.out).mono ?_
    rintro e w2 ⟨rfl, hb⟩
    have HW2 : Hid (Below w.heap.size w w2) := HW1.out.trans (hb.mono HW1.out.size)
    replace HA := Lib.hid (HA.out.below hb)
    replace HB := Lib.hid (HB.out.below hb)
    clear hb
    go_wp2_with fail
    refine (KD1.out _ HA.out.1).mono ?_
    rintro e w3 ⟨rfl, hb⟩
    have HW3 : Hid (Below w.heap.size w w3) := HW2.out.trans (hb.mono HW2.out.size)
    replace HA := Lib.hid (HA.out.below hb)
    replace HB := Lib.hid (HB.out.below hb)
    clear hb
    go_wp2_with fail
    refine (KD2.out _ HB.out.1).mono ?_
    rintro e w4 ⟨rfl, hb⟩
    have HW4 : Hid (Below w.heap.size w w4) := HW3.out.trans (hb.mono HW3.out.size)
    replace HA := Lib.hid (HA.out.below hb)
    replace HB := Lib.hid (HB.out.below hb)
    clear hb
    go_wp2_with fail
    refine (GA.out _).mono ?_
    rintro e w5 ⟨rfl, hb⟩
    have HW5 : Hid (Below w.heap.size w w5) := HW4.out.trans (hb.mono HW4.out.size)
    replace HA := Lib.hid (HA.out.below hb)
    replace HB := Lib.hid (HB.out.below hb)
    clear hb
    go_wp2
    go_ret
    exact ⟨rfl, HW5.out⟩
  by_cases e2 : dErr s b = 0
  rotate_left
  · have KD1 := Lib.hid (fun w h => kRefDo HX.out e1 HSB.out HSL.out HEa.out A ca w h)
    obtain ⟨q, HQ⟩ : ∃ q, Hid (dErr s b = q) := ⟨_, Lib.hid rfl⟩
    have KD2 := Lib.hid (fun w h => kRefDo HY.out HQ.out HSB.out HSL.out HEb.out B cb w h)
    rw [HQ.out] at e2
    have hq : ((q : Int) != 0) = true := bne_iff_ne.2 (by omega)
    clear e1 e2
    go_enter Try.func3, Try.ntmps3
    go_wp2_with fail
    refine (GWa.out _ HA.out).mono ?_
    rintro e w1 ⟨rfl, hb⟩
    have HW1 : Hid (Below w.heap.size w w1) := HW0.out.trans (hb.mono HW0.out.size)
    replace HA := Lib.hid (HA.out.below hb)
    replace HB := Lib.hid (HB.out.below hb)
    clear hb
    go_wp2_with fail
    refine (GWb.out _ HB.out).mono ?_
    rintro e w2 ⟨rfl, hb⟩
    have HW2 : Hid (Below w.heap.size w w2) := HW1.out.trans (hb.mono HW1.out.size)
    replace HA := Lib.hid (HA.out.below hb)
    replace HB := Lib.hid (HB.out.below hb)
    clear hb
    go_wp2_with fail
    refine (KD1.out _ HA.out.1).mono ?_
    rintro e w3 ⟨rfl, hb⟩
    have HW3 : Hid (Below w.heap.size w w3) := HW2.out.trans (hb.mono HW2.out.size)
    replace HA := Lib.hid (HA.out.below hb)
    replace HB := Lib.hid (HB.out.below hb)
    clear hb
    go_wp2_with fail
    refine (KD2.out _ HB.out.1).mono ?_
    rintro e w4 ⟨rfl, hb⟩
    have HW4 : Hid (Below w.heap.size w w4) := HW3.out.trans (hb.mono HW3.out.size)
    replace HA := Lib.hid (HA.out.below hb)
    replace HB := Lib.hid (HB.out.below hb)
    clear hb
    go_wp2_with fail
    refine (GA.out _).mono ?_
    rintro e w5 ⟨rfl, hb⟩
    have HW5 : Hid (Below w.heap.size w w5) := HW4.out.trans (hb.mono HW4.out.size)
    replace HA := Lib.hid (HA.out.below hb)
    replace HB := Lib.hid (HB.out.below hb)
    clear hb
    go_wp2
    go_ret
    exact ⟨rfl, HW5.out⟩
  have KD1 := Lib.hid (fun w h => kRefDo HX.out e1 HSB.out HSL.out HEa.out A ca w h)
  have KD2 := Lib.hid (fun w h => kRefDo HY.out e2 HSB.out HSL.out HEb.out B cb w h)
  by_cases hae : a = []
  · subst hae
    have hl0 : (([] : List CompV).length : Int) = 0 := rfl
    clear e1 e2
    go_enter Try.func3, Try.ntmps3
    go_wp2_with fail
    refine (GWa.out _ HA.out).mono ?_
    rintro e w1 ⟨rfl, hb⟩
    have HW1 : Hid (Below w.heap.size w w1) := HW0.out.trans (hb.mono HW0.out.size)
    replace HA := Lib.hid (HA.out.below hb)
    replace HB := Lib.hid (HB.out.below hb)
    clear hb
    go_wp2_with fail
    refine (GWb.out _ HB.out).mono ?_
    rintro e w2 ⟨rfl, hb⟩
    have HW2 : Hid (Below w.heap.size w w2) := HW1.out.trans (hb.mono HW1.out.size)
    replace HA := Lib.hid (HA.out.below hb)
    replace HB := Lib.hid (HB.out.below hb)
    clear hb
    go_wp2_with fail
    refine (KD1.out _ HA.out.1).mono ?_
    rintro e w3 ⟨rfl, hb⟩
    have HW3 : Hid (Below w.heap.size w w3) := HW2.out.trans (hb.mono HW2.out.size)
    replace HA := Lib.hid (HA.out.below hb)
    replace HB := Lib.hid (HB.out.below hb)
    clear hb
    go_wp2_with fail
    refine (KD2.out _ HB.out.1).mono ?_
    rintro e w4 ⟨rfl, hb⟩
    have HW4 : Hid (Below w.heap.size w w4) := HW3.out.trans (hb.mono HW3.out.size)
    replace HA := Lib.hid (HA.out.below hb)
    replace HB := Lib.hid (HB.out.below hb)
    clear hb
    go_wp2_with fail
    refine (GA.out _).mono ?_
    rintro e w5 ⟨rfl, hb⟩
    have HW5 : Hid (Below w.heap.size w w5) := HW4.out.trans (hb.mono HW4.out.size)
    replace HA := Lib.hid (HA.out.below hb)
    replace HB := Lib.hid (HB.out.below hb)
    clear hb
    go_wp2
    go_ret
    exact ⟨rfl, HW5.out⟩
  have hal : ((a.length : Int) == 0) = false := beq_eq_false_iff_ne.2 (by
    have : a.length ≠ 0 := fun h => hae (List.length_eq_zero_iff.1 h)
    omega)
  obtain ⟨za, vs, hv, hna⟩ := dErr_zero e1
  obtain ⟨zb, vs', hv', hnb⟩ := dErr_zero e2
  obtain rfl := hv.uniq hv'
  have oka := ok_of za
  have okb := ok_of zb
  have hxe := dTxt_ed za hv hna
  have hye := dTxt_ed zb hv hnb
  rw [HX.out] at hxe
  rw [HY.out] at hye
  have hba := oka.base
  have hbb := okb.base
  have hab : inS a = inS b := by omega
  have hla2 := ed_length a vs oka.wh (by omega)
  have hlb2 := ed_length b vs okb.wh (by omega)
  have hVX : V X (ed a vs) := by rw [hxe]; exact V.mk (ed_may a vs oka.wh hv.may)
  have hVY : V Y (ed b vs) := by rw [hye]; exact V.mk (ed_may b vs okb.wh hv.may)
  obtain ⟨P, hP⟩ := over_is true oka okb hab
  obtain ⟨Q, hQ⟩ := over_is false okb oka hab.symm
  have HMT := Lib.hid (hP.meets hQ oka okb hab vs (by omega))
  have HOE := Lib.hid (fun (D : Option Addr) (c : Nat) => over_edit hP.over hae D c)
  have KQ := Lib.hid (fun w h1 h2 => kRefOv hQ.over HEb.out HEa.out B cb A ca w h1 h2)
  have HHP : Hid (∀ k : OneK, k.ops = P → KeyH k → Held1 P) := Lib.hid (fun k h g => by rw [← h]; exact g.1)
  have HPI : Hid ((ed b vs).length = inS P) := by show _ = _; rw [hP.ins, hlb2]
  have HQI : Hid ((ed a vs).length = inS Q) := by show _ = _; rw [hQ.ins, hla2]
  have HVX := Lib.hid hVX
  have HVY := Lib.hid hVY
  have HPH : Hid (Held1 P) := Lib.hid (by
    obtain ⟨o, _, h2, h3, _⟩ := over_held true za zb (by rw [hba, hbb, hab])
    have h4 := hP.over
    rw [h2] at h4
    injection h4 with h4
    rw [← h4]
    exact h3)
  clear e1 e2 za zb hv hna hv' hnb oka okb hxe hye hba hbb hab hla2 hlb2 hVX hVY hP hQ
  have GO := Lib.hid (fun (X : World) (h : CompsAt X A a) (g : Nat) (hg : g = X.heap.size) => effOf_any (some ⟨g, 0, none⟩) 1 [eE 5 A ca a] (by simp) (by simp) (fun y hy => by rw [List.mem_singleton.1 hy]; exact eE_ok (by unfold Fit64; omega) A HEa.out HAC.out HCA.out) _ (acts_e1 X A ca a h g hg))
  rw [eff_edit] at GO
  have GV := Lib.hid (fun (X : World) (h : CompsAt X B b) (g : Nat) (hg : g = X.heap.size) (A1 : Option Addr) (c1 : Nat) (y : OneV) (hy : y.Good) (hk : y.k = ⟨5, a, true, false, false, false, 0, []⟩) (hc : 1 ≤ c1) (hat : OnesAt X A1 [y]) => effOver_any A1 c1 [y] (by simp) hc (fun z hz => by rw [List.mem_singleton.1 hz]; exact ⟨hy, by rw [hk]; exact ⟨HEa.out, by simp⟩⟩) (some ⟨g, 0, none⟩) 2 [eE 5 B cb b, eE 6 B cb b] (by simp) (by simp) (fun z hz => by
    have hz' : z = eE 5 B cb b ∨ z = eE 6 B cb b := by simpa using hz
    rcases hz' with rfl | rfl
    · exact eE_ok (by unfold Fit64; omega) B HEb.out HBC.out HCB.out
    · exact eE_ok (by unfold Fit64; omega) B HEb.out HBC.out HCB.out) _ (hat.below ((Below.refl _ _).alloc (Nat.le_refl _) (.cells #[.int .i64 4, .int .i64 5, .int .i64 0, .string { data := #[] }, .bool false, .slice B b.length cb, .int .i64 4, .int .i64 6, .int .i64 0, .string { data := #[] }, .bool false, .slice B b.length cb] 31))) (acts_e2 X B cb b h g hg))
  simp only [List.length_cons, List.length_nil, Nat.zero_add, Nat.reduceAdd] at GO GV
  by_cases cp : rCheck P = 0
  · by_cases cq : rCheck Q = 0
    · have dp := sees_ok (ok_of cp) HVY.out HPI.out
      have dq := sees_ok (ok_of cq) HVX.out HQI.out
      rw [← HMT.out] at dq
      have HCP := Lib.hid cp
      have HCQ := Lib.hid cq
      have HDP := Lib.hid dp
      have HDQ := Lib.hid dq
      clear cp cq dp dq
      generalize E (ed P (ed b vs)) = Z at HDP HDQ
      go_enter Try.func3, Try.ntmps3
      go_wp2_with fail
      refine (GWa.out _ HA.out).mono ?_
      rintro e w1 ⟨rfl, hb⟩
      have HW1 : Hid (Below w.heap.size w w1) := HW0.out.trans (hb.mono HW0.out.size)
      replace HA := Lib.hid (HA.out.below hb)
      replace HB := Lib.hid (HB.out.below hb)
      clear hb
      go_wp2_with fail
      refine (GWb.out _ HB.out).mono ?_
      rintro e w2 ⟨rfl, hb⟩
      have HW2 : Hid (Below w.heap.size w w2) := HW1.out.trans (hb.mono HW1.out.size)
      replace HA := Lib.hid (HA.out.below hb)
      replace HB := Lib.hid (HB.out.below hb)
      clear hb
      go_wp2_with fail
      refine (KD1.out _ HA.out.1).mono ?_
      rintro e w3 ⟨rfl, hb⟩
      have HW3 : Hid (Below w.heap.size w w3) := HW2.out.trans (hb.mono HW2.out.size)
      replace HA := Lib.hid (HA.out.below hb)
      replace HB := Lib.hid (HB.out.below hb)
      clear hb
      go_wp2_with fail
      refine (KD2.out _ HB.out.1).mono ?_
      rintro e w4 ⟨rfl, hb⟩
      have HW4 : Hid (Below w.heap.size w w4) := HW3.out.trans (hb.mono HW3.out.size)
      replace HA := Lib.hid (HA.out.below hb)
      replace HB := Lib.hid (HB.out.below hb)
      clear hb
      go_wp2_with fail
      refine (GO.out _ HA.out.1 _ (by simp)).mono ?_
      rintro e w5 ⟨⟨v, rfl, A1, c1, L1, rfl, hat1, hk1, hg1, hc1⟩, hb⟩
      have hbz := ((Below.refl w4.heap.size w4).alloc (Nat.le_refl _) (.cells #[.int .i64 4, .int .i64 5, .int .i64 0, .string { data := #[] }, .bool false, .slice A a.length ca] 31)).trans (hb.mono (by simp))
      have HW5 : Hid (Below w.heap.size w w5) := HW4.out.trans (hbz.mono HW4.out.size)
      replace HA := Lib.hid (HA.out.below hbz)
      replace HB := Lib.hid (HB.out.below hbz)
      clear hb hbz
      obtain ⟨y1, rfl⟩ : ∃ y, L1 = [y] := by
        cases L1 with
        | nil => cases hk1
        | cons y L =>
          cases L with
          | nil => exact ⟨y, rfl⟩
          | cons z L => simp at hk1
      have GV1 := Lib.hid (fun (g : Nat) (hg : g = w5.heap.size) => GV.out w5 HB.out.1 g hg A1 c1 y1 (hg1 y1 (by simp)) (by simpa using hk1) hc1 hat1)
      rw [show [y1].map (·.k) = [⟨5, a, true, false, false, false, 0, []⟩] from hk1, HOE.out] at GV1
      clear hat1 hk1 hg1 hc1
      simp only [List.length_cons, List.length_nil, Nat.zero_add]
      go_wp2_with fail
      refine (GV1.out _ (by simp)).mono ?_
      rintro e w6 ⟨⟨v, rfl, A2, c2, L2, rfl, hat2, hk2, hg2, hc2⟩, hb⟩
      have hbz := ((Below.refl w5.heap.size w5).alloc (Nat.le_refl _) (.cells #[.int .i64 4, .int .i64 5, .int .i64 0, .string { data := #[] }, .bool false, .slice B b.length cb, .int .i64 4, .int .i64 6, .int .i64 0, .string { data := #[] }, .bool false, .slice B b.length cb] 31)).trans (hb.mono (by simp))
      have HW6 : Hid (Below w.heap.size w w6) := HW5.out.trans (hbz.mono HW5.out.size)
      replace HA := Lib.hid (HA.out.below hbz)
      replace HB := Lib.hid (HB.out.below hbz)
      clear hb hbz GV1
      obtain ⟨y2, rfl⟩ : ∃ y, L2 = [y] := by
        cases L2 with
        | nil => cases hk2
        | cons y L =>
          cases L with
          | nil => exact ⟨y, rfl⟩
          | cons z L => simp at hk2
      have hk3 : y2.k = ⟨5, P, true, false, false, false, 0, []⟩ := by simpa using hk2
      obtain ⟨k2, A3, c3⟩ := y2
      simp only at hk3
      subst hk3
      obtain ⟨b2, o2, rfl, _⟩ := hat2.form (by simp)
      have HL := Lib.hid hat2
      clear hat2 hk2 hg2 hc2
      simp only [List.length_cons, List.length_nil, Nat.zero_add]
      go_wp2_with fail
      refine (KQ.out _ HB.out.1 HA.out.1).mono ?_
      rintro e w7 ⟨⟨⟨A4, c4, rfl, hk⟩, hh⟩, hb⟩
      have HW7 : Hid (Below w.heap.size w w7) := HW6.out.trans (hb.mono HW6.out.size)
      replace HA := Lib.hid (HA.out.below hb)
      replace HB := Lib.hid (HB.out.below hb)
      replace HL := Lib.hid (HL.out.below hb)
      have HQA := Lib.hid hk
      have HHQ := Lib.hid hh
      clear hk hh
      have z1 := (HL.out.at_ (i := 0) (by simp)).2.1
      simp only [List.getElem_cons_zero, Nat.zero_mul, Nat.add_zero] at z1
      clear hb
      go_wp2_with fail
      refine (kRefChk HCP.out HPH.out _ _ _ (HL.out.2 ⟨⟨5, P, true, false, false, false, 0, []⟩, A3, c3⟩ (by simp))).mono ?_
      rintro e w8 ⟨rfl, hb⟩
      have HW8 : Hid (Below w.heap.size w w8) := HW7.out.trans (hb.mono HW7.out.size)
      replace HA := Lib.hid (HA.out.below hb)
      replace HB := Lib.hid (HB.out.below hb)
      replace HL := Lib.hid (HL.out.below hb)
      replace HQA := Lib.hid (HQA.out.below hb)
      clear z1
      have z1 := (HL.out.at_ (i := 0) (by simp)).2.1
      simp only [List.getElem_cons_zero, Nat.zero_mul, Nat.add_zero] at z1
      clear hb
      go_wp2_with fail
      refine (kRefChk HCQ.out HHQ.out _ _ _ HQA.out).mono ?_
      rintro e w9 ⟨rfl, hb⟩
      have HW9 : Hid (Below w.heap.size w w9) := HW8.out.trans (hb.mono HW8.out.size)
      replace HA := Lib.hid (HA.out.below hb)
      replace HB := Lib.hid (HB.out.below hb)
      replace HL := Lib.hid (HL.out.below hb)
      replace HQA := Lib.hid (HQA.out.below hb)
      clear z1
      have z1 := (HL.out.at_ (i := 0) (by simp)).2.1
      simp only [List.getElem_cons_zero, Nat.zero_mul, Nat.add_zero] at z1
      clear hb
      go_wp2_with fail
      refine (kRefDo HDP.out.2 HDP.out.1 HYS.out.1 (by have := HYS.out.2; omega) HPH.out _ _ _ (HL.out.2 ⟨⟨5, P, true, false, false, false, 0, []⟩, A3, c3⟩ (by simp))).mono ?_
      rintro e w10 ⟨rfl, hb⟩
      have HW10 : Hid (Below w.heap.size w w10) := HW9.out.trans (hb.mono HW9.out.size)
      replace HA := Lib.hid (HA.out.below hb)
      replace HB := Lib.hid (HB.out.below hb)
      replace HL := Lib.hid (HL.out.below hb)
      replace HQA := Lib.hid (HQA.out.below hb)
      clear z1
      clear hb
      go_wp2_with fail
      refine (kRefDo HDQ.out.2 HDQ.out.1 HXS.out.1 (by have := HXS.out.2; omega) HHQ.out _ _ _ HQA.out).mono ?_
      rintro e w11 ⟨rfl, hb⟩
      have HW11 : Hid (Below w.heap.size w w11) := HW10.out.trans (hb.mono HW10.out.size)
      replace HA := Lib.hid (HA.out.below hb)
      replace HB := Lib.hid (HB.out.below hb)
      replace HL := Lib.hid (HL.out.below hb)
      replace HQA := Lib.hid (HQA.out.below hb)
      clear hb
      go_wp2_with fail
      refine (GA.out _).mono ?_
      rintro e w12 ⟨rfl, hb⟩
      have HW12 : Hid (Below w.heap.size w w12) := HW11.out.trans (hb.mono HW11.out.size)
      replace HA := Lib.hid (HA.out.below hb)
      replace HB := Lib.hid (HB.out.below hb)
      replace HL := Lib.hid (HL.out.below hb)
      replace HQA := Lib.hid (HQA.out.below hb)
      clear hb
      go_wp2
      go_ret
      exact ⟨rfl, HW12.out⟩
    · obtain ⟨q, HQC⟩ : ∃ q, Hid (rCheck Q = q) := ⟨_, Lib.hid rfl⟩
      rw [HQC.out] at cq
      have hq : ((q : Int) != 0) = true := bne_iff_ne.2 (by omega)
      have HCP := Lib.hid cp
      clear cp cq
      go_enter Try.func3, Try.ntmps3
      go_wp2_with fail
      refine (GWa.out _ HA.out).mono ?_
      rintro e w1 ⟨rfl, hb⟩
      have HW1 : Hid (Below w.heap.size w w1) := HW0.out.trans (hb.mono HW0.out.size)
      replace HA := Lib.hid (HA.out.below hb)
      replace HB := Lib.hid (HB.out.below hb)
      clear hb
      go_wp2_with fail
      refine (GWb.out _ HB.out).mono ?_
      rintro e w2 ⟨rfl, hb⟩
      have HW2 : Hid (Below w.heap.size w w2) := HW1.out.trans (hb.mono HW1.out.size)
      replace HA := Lib.hid (HA.out.below hb)
      replace HB := Lib.hid (HB.out.below hb)
      clear hb
      go_wp2_with fail
      refine (KD1.out _ HA.out.1).mono ?_
      rintro e w3 ⟨rfl, hb⟩
      have HW3 : Hid (Below w.heap.size w w3) := HW2.out.trans (hb.mono HW2.out.size)
      replace HA := Lib.hid (HA.out.below hb)
      replace HB := Lib.hid (HB.out.below hb)
      clear hb
      go_wp2_with fail
      refine (KD2.out _ HB.out.1).mono ?_
      rintro e w4 ⟨rfl, hb⟩
      have HW4 : Hid (Below w.heap.size w w4) := HW3.out.trans (hb.mono HW3.out.size)
      replace HA := Lib.hid (HA.out.below hb)
      replace HB := Lib.hid (HB.out.below hb)
      clear hb
      go_wp2_with fail
      refine (GO.out _ HA.out.1 _ (by simp)).mono ?_
      rintro e w5 ⟨⟨v, rfl, A1, c1, L1, rfl, hat1, hk1, hg1, hc1⟩, hb⟩
      have hbz := ((Below.refl w4.heap.size w4).alloc (Nat.le_refl _) (.cells #[.int .i64 4, .int .i64 5, .int .i64 0, .string { data := #[] }, .bool false, .slice A a.length ca] 31)).trans (hb.mono (by simp))
      have HW5 : Hid (Below w.heap.size w w5) := HW4.out.trans (hbz.mono HW4.out.size)
      replace HA := Lib.hid (HA.out.below hbz)
      replace HB := Lib.hid (HB.out.below hbz)
      clear hb hbz
      obtain ⟨y1, rfl⟩ : ∃ y, L1 = [y] := by
        cases L1 with
        | nil => cases hk1
        | cons y L =>
          cases L with
          | nil => exact ⟨y, rfl⟩
          | cons z L => simp at hk1
      have GV1 := Lib.hid (fun (g : Nat) (hg : g = w5.heap.size) => GV.out w5 HB.out.1 g hg A1 c1 y1 (hg1 y1 (by simp)) (by simpa using hk1) hc1 hat1)
      rw [show [y1].map (·.k) = [⟨5, a, true, false, false, false, 0, []⟩] from hk1, HOE.out] at GV1
      clear hat1 hk1 hg1 hc1
      simp only [List.length_cons, List.length_nil, Nat.zero_add]
      go_wp2_with fail
      refine (GV1.out _ (by simp)).mono ?_
      rintro e w6 ⟨⟨v, rfl, A2, c2, L2, rfl, hat2, hk2, hg2, hc2⟩, hb⟩
      have hbz := ((Below.refl w5.heap.size w5).alloc (Nat.le_refl _) (.cells #[.int .i64 4, .int .i64 5, .int .i64 0, .string { data := #[] }, .bool false, .slice B b.length cb, .int .i64 4, .int .i64 6, .int .i64 0, .string { data := #[] }, .bool false, .slice B b.length cb] 31)).trans (hb.mono (by simp))
      have HW6 : Hid (Below w.heap.size w w6) := HW5.out.trans (hbz.mono HW5.out.size)
      replace HA := Lib.hid (HA.out.below hbz)
      replace HB := Lib.hid (HB.out.below hbz)
      clear hb hbz GV1
      obtain ⟨y2, rfl⟩ : ∃ y, L2 = [y] := by
        cases L2 with
        | nil => cases hk2
        | cons y L =>
          cases L with
          | nil => exact ⟨y, rfl⟩
          | cons z L => simp at hk2
      have hk3 : y2.k = ⟨5, P, true, false, false, false, 0, []⟩ := by simpa using hk2
      obtain ⟨k2, A3, c3⟩ := y2
      simp only at hk3
      subst hk3
      obtain ⟨b2, o2, rfl, _⟩ := hat2.form (by simp)
      have HL := Lib.hid hat2
      clear hat2 hk2 hg2 hc2
      simp only [List.length_cons, List.length_nil, Nat.zero_add]
      go_wp2_with fail
      refine (KQ.out _ HB.out.1 HA.out.1).mono ?_
      rintro e w7 ⟨⟨⟨A4, c4, rfl, hk⟩, hh⟩, hb⟩
      have HW7 : Hid (Below w.heap.size w w7) := HW6.out.trans (hb.mono HW6.out.size)
      replace HA := Lib.hid (HA.out.below hb)
      replace HB := Lib.hid (HB.out.below hb)
      replace HL := Lib.hid (HL.out.below hb)
      have HQA := Lib.hid hk
      have HHQ := Lib.hid hh
      clear hk hh
      have z1 := (HL.out.at_ (i := 0) (by simp)).2.1
      simp only [List.getElem_cons_zero, Nat.zero_mul, Nat.add_zero] at z1
      clear hb
      go_wp2_with fail
      refine (kRefChk HCP.out HPH.out _ _ _ (HL.out.2 ⟨⟨5, P, true, false, false, false, 0, []⟩, A3, c3⟩ (by simp))).mono ?_
      rintro e w8 ⟨rfl, hb⟩
      have HW8 : Hid (Below w.heap.size w w8) := HW7.out.trans (hb.mono HW7.out.size)
      replace HA := Lib.hid (HA.out.below hb)
      replace HB := Lib.hid (HB.out.below hb)
      replace HL := Lib.hid (HL.out.below hb)
      replace HQA := Lib.hid (HQA.out.below hb)
      clear z1
      have z1 := (HL.out.at_ (i := 0) (by simp)).2.1
      simp only [List.getElem_cons_zero, Nat.zero_mul, Nat.add_zero] at z1
      clear hb
      go_wp2_with fail
      refine (kRefChk HQC.out HHQ.out _ _ _ HQA.out).mono ?_
      rintro e w9 ⟨rfl, hb⟩
      have HW9 : Hid (Below w.heap.size w w9) := HW8.out.trans (hb.mono HW8.out.size)
      replace HA := Lib.hid (HA.out.below hb)
      replace HB := Lib.hid (HB.out.below hb)
      replace HL := Lib.hid (HL.out.below hb)
      replace HQA := Lib.hid (HQA.out.below hb)
      clear z1
      clear hb
      go_wp2_with fail
      refine (GA.out _).mono ?_
      rintro e w10 ⟨rfl, hb⟩
      have HW10 : Hid (Below w.heap.size w w10) := HW9.out.trans (hb.mono HW9.out.size)
      replace HA := Lib.hid (HA.out.below hb)
      replace HB := Lib.hid (HB.out.below hb)
      replace HL := Lib.hid (HL.out.below hb)
      replace HQA := Lib.hid (HQA.out.below hb)
      clear hb
      go_wp2
      go_ret
      exact ⟨rfl, HW10.out⟩
  · obtain ⟨q, HQC⟩ : ∃ q, Hid (rCheck P = q) := ⟨_, Lib.hid rfl⟩
    rw [HQC.out] at cp
    have hq : ((q : Int) != 0) = true := bne_iff_ne.2 (by omega)
    clear cp
    go_enter Try.func3, Try.ntmps3
    go_wp2_with fail
    refine (GWa.out _ HA.out).mono ?_
    rintro e w1 ⟨rfl, hb⟩
    have HW1 : Hid (Below w.heap.size w w1) := HW0.out.trans (hb.mono HW0.out.size)
    replace HA := Lib.hid (HA.out.below hb)
    replace HB := Lib.hid (HB.out.below hb)
    clear hb
    go_wp2_with fail
    refine (GWb.out _ HB.out).mono ?_
    rintro e w2 ⟨rfl, hb⟩
    have HW2 : Hid (Below w.heap.size w w2) := HW1.out.trans (hb.mono HW1.out.size)
    replace HA := Lib.hid (HA.out.below hb)
    replace HB := Lib.hid (HB.out.below hb)
    clear hb
    go_wp2_with fail
    refine (KD1.out _ HA.out.1).mono ?_
    rintro e w3 ⟨rfl, hb⟩
    have HW3 : Hid (Below w.heap.size w w3) := HW2.out.trans (hb.mono HW2.out.size)
    replace HA := Lib.hid (HA.out.below hb)
    replace HB := Lib.hid (HB.out.below hb)
    clear hb
    go_wp2_with fail
    refine (KD2.out _ HB.out.1).mono ?_
    rintro e w4 ⟨rfl, hb⟩
    have HW4 : Hid (Below w.heap.size w w4) := HW3.out.trans (hb.mono HW3.out.size)
    replace HA := Lib.hid (HA.out.below hb)
    replace HB := Lib.hid (HB.out.below hb)
    clear hb
    go_wp2_with fail
    refine (GO.out _ HA.out.1 _ (by simp)).mono ?_
    rintro e w5 ⟨⟨v, rfl, A1, c1, L1, rfl, hat1, hk1, hg1, hc1⟩, hb⟩
    have hbz := ((Below.refl w4.heap.size w4).alloc (Nat.le_refl _) (.cells #[.int .i64 4, .int .i64 5, .int .i64 0, .string { data := #[] }, .bool false, .slice A a.length ca] 31)).trans (hb.mono (by simp))
    have HW5 : Hid (Below w.heap.size w w5) := HW4.out.trans (hbz.mono HW4.out.size)
    replace HA := Lib.hid (HA.out.below hbz)
    replace HB := Lib.hid (HB.out.below hbz)
    clear hb hbz
    obtain ⟨y1, rfl⟩ : ∃ y, L1 = [y] := by
      cases L1 with
      | nil => cases hk1
      | cons y L =>
        cases L with
        | nil => exact ⟨y, rfl⟩
        | cons z L => simp at hk1
    have GV1 := Lib.hid (fun (g : Nat) (hg : g = w5.heap.size) => GV.out w5 HB.out.1 g hg A1 c1 y1 (hg1 y1 (by simp)) (by simpa using hk1) hc1 hat1)
    rw [show [y1].map (·.k) = [⟨5, a, true, false, false, false, 0, []⟩] from hk1, HOE.out] at GV1
    clear hat1 hk1 hg1 hc1
    simp only [List.length_cons, List.length_nil, Nat.zero_add]
    go_wp2_with fail
    refine (GV1.out _ (by simp)).mono ?_
    rintro e w6 ⟨⟨v, rfl, A2, c2, L2, rfl, hat2, hk2, hg2, hc2⟩, hb⟩
    have hbz := ((Below.refl w5.heap.size w5).alloc (Nat.le_refl _) (.cells #[.int .i64 4, .int .i64 5, .int .i64 0, .string { data := #[] }, .bool false, .slice B b.length cb, .int .i64 4, .int .i64 6, .int .i64 0, .string { data := #[] }, .bool false, .slice B b.length cb] 31)).trans (hb.mono (by simp))
    have HW6 : Hid (Below w.heap.size w w6) := HW5.out.trans (hbz.mono HW5.out.size)
    replace HA := Lib.hid (HA.out.below hbz)
    replace HB := Lib.hid (HB.out.below hbz)
    clear hb hbz GV1
    obtain ⟨y2, rfl⟩ : ∃ y, L2 = [y] := by
      cases L2 with
      | nil => cases hk2
      | cons y L =>
        cases L with
        | nil => exact ⟨y, rfl⟩
        | cons z L => simp at hk2
    have hk3 : y2.k = ⟨5, P, true, false, false, false, 0, []⟩ := by simpa using hk2
    obtain ⟨k2, A3, c3⟩ := y2
    simp only at hk3
    subst hk3
    obtain ⟨b2, o2, rfl, _⟩ := hat2.form (by simp)
    have HL := Lib.hid hat2
    clear hat2 hk2 hg2 hc2
    simp only [List.length_cons, List.length_nil, Nat.zero_add]
    go_wp2_with fail
    refine (KQ.out _ HB.out.1 HA.out.1).mono ?_
    rintro e w7 ⟨⟨⟨A4, c4, rfl, hk⟩, hh⟩, hb⟩
    have HW7 : Hid (Below w.heap.size w w7) := HW6.out.trans (hb.mono HW6.out.size)
    replace HA := Lib.hid (HA.out.below hb)
    replace HB := Lib.hid (HB.out.below hb)
    replace HL := Lib.hid (HL.out.below hb)
    have HQA := Lib.hid hk
    have HHQ := Lib.hid hh
    clear hk hh
    have z1 := (HL.out.at_ (i := 0) (by simp)).2.1
    simp only [List.getElem_cons_zero, Nat.zero_mul, Nat.add_zero] at z1
    clear hb
    go_wp2_with fail
    refine (kRefChk HQC.out HPH.out _ _ _ (HL.out.2 ⟨⟨5, P, true, false, false, false, 0, []⟩, A3, c3⟩ (by simp))).mono ?_
    rintro e w8 ⟨rfl, hb⟩
    have HW8 : Hid (Below w.heap.size w w8) := HW7.out.trans (hb.mono HW7.out.size)
    replace HA := Lib.hid (HA.out.below hb)
    replace HB := Lib.hid (HB.out.below hb)
    replace HL := Lib.hid (HL.out.below hb)
    replace HQA := Lib.hid (HQA.out.below hb)
    clear z1
    clear hb
    go_wp2_with fail
    refine (GA.out _).mono ?_
    rintro e w9 ⟨rfl, hb⟩
    have HW9 : Hid (Below w.heap.size w w9) := HW8.out.trans (hb.mono HW8.out.size)
    replace HA := Lib.hid (HA.out.below hb)
    replace HB := Lib.hid (HB.out.below hb)
    replace HL := Lib.hid (HL.out.below hb)
    replace HQA := Lib.hid (HQA.out.below hb)
    clear hb
    go_wp2
    go_ret
    exact ⟨rfl, HW9.out⟩
end Go.Proofs.Ytnadhpajelkngaa

/- What an edit did, seen from behind another one, does there what it did: both orders make one text: it answers true and changes nothing. No condition. -/
namespace Go.Proofs.Ytnadhpajelkngaa
open Go.ChangeShapes Go.WideShapes Go.ChangeAt Go.RowKit

set_option maxRecDepth 100000 in
theorem effectSees_lifted (os : Os) (started : os.Started) (H : Type) (enc : TypeId × Value → H) :
    ReturnsInHanded {} Try.checked os 3 .any (Rows.effectSeesSpec.pre6 enc Try.prog Try.f3 Rows.effectSeesRow.domain false) (Rows.effectSeesSpec.post enc Try.prog Try.f3 false true false false) := by
  refine returnsInHanded_of_change (C := Try.checked) law_own started (by kernel_rfl) Try.func3
    (ChangeSpec.witness6 (enc := enc) (C := Try.checked) false ⟨#[], #[.string { data := #[] }, .slice none 0 0, .slice none 0 0], []⟩ 8 (by kernel_rfl) (by kernel_rfl) (by kernel_rfl) (by kernel_rfl)) ?_
  intro W base args ds gs before hval0 hW _ _
  have hval : ∀ (j : Nat) t v, Try.f3.params[j]? = some t → args[j]? = some v → Value.okWide Try.prog W .any base t v := hval0
  have hW' := hW
  obtain ⟨p, q, hA0, hV, rfl, _, _⟩ := hW
  have hlt : ∀ x ∈ p ++ q, x.block < W.heap.size := fun x hx => hW'.lt x hx
  have hA : DataW.TrodAll enc Try.prog W 0 (fun _ => true) true Try.f3.params.toList args.toList ds p := hA0
  rw [Try.params3] at hA hval
  obtain ⟨v0, v1, v2, d0, d1, d2, p0, p1, p2, rfl, rfl, rfl, h0, h1, h2⟩ := trodAll_three hA
  obtain ⟨rfl, rfl⟩ := trodVars_none hV
  obtain ⟨s0, rfl, rfl, rfl, hsz0⟩ := Go.ChangeMaps.open_string Try.underlying9 (hval 0 9 v0 rfl rfl) h0
  obtain ⟨t0, hb0, rfl⟩ := bstr_any s0
  have hl0 : t0.length ≤ maxLen := by rw [bstr_size] at hsz0; exact hsz0
  obtain ⟨A1, l1, c1, rfl, hat1, hg1, hlc1, hc1⟩ := open_comps (hval 1 22 v1 rfl rfl) h1 (fun x hx => hlt x (by simp [hx]))
  have hl1 : l1.length ≤ maxLen := by omega
  obtain ⟨A2, l2, c2, rfl, hat2, hg2, hlc2, hc2⟩ := open_comps (hval 2 22 v2 rfl rfl) h2 (fun x hx => hlt x (by simp [hx]))
  have hl2 : l2.length ≤ maxLen := by omega
  clear hA0 hval0
  refine (effectSees_any t0 A1 l1 c1 A2 l2 c2 hb0 hl0 hl1 hg1 hl2 hg2 W ⟨hat1, hlc1⟩ ⟨hat2, hlc2⟩ hc1 hc2).mono fun e W' ⟨he, hb⟩ => ?_
  exact ⟨_, he, law_post law_laid (by kernel_rfl) (by kernel_rfl) Try.underlying4 rfl hW' rfl hb⟩

theorem effectSees_holds : Rows.EffectSeesSaid :=
  OpenClaim.holds_of_wide 3 Try.f3 rfl rfl rfl rfl rfl rfl rfl ⟨rfl, rfl, rfl, rfl, rfl⟩ rfl rfl rfl rfl rfl (by kernel_rfl) Try.func3 (by kernel_rfl)
    (of_decide_eq_true (by kernel_rfl)) (by unfold Func.isWrapper; first | (rw [if_pos (by decide +kernel)]; kernel_rfl) | (rw [if_neg (by decide +kernel)]; exact ⟨rfl, rfl⟩))
    (fun os started H enc _ => effectSees_lifted os started H enc)
end Go.Proofs.Ytnadhpajelkngaa
