/- ComposeDoes holds: one edit, then another one, do what both as one do; brackets do not matter; the one with nothing done ahead, or behind, is itself: whatever the law is called with: it answers true and changes nothing. No condition. (Merged of 2 texts.) -/
import Derived.Test.YtoicgmfcbmjchaaKCom
import Derived.ChangeMaps5
/- ComposeDoes, walked: one edit, then another one, do what both as one do; brackets do not matter; the one with nothing done ahead, or behind, is itself. Condition: what memory may hold. -/
namespace Go.Proofs.Ytoicgmfcbmjchaa
open Go.RowKit Go.Deep

set_option maxHeartbeats 16000000 in
set_option maxRecDepth 100000 in
theorem composeDoes_any (s : List Nat) (A : Option Addr) (a : List CompV) (ca : Nat) (B : Option Addr) (b : List CompV) (cb : Nat) (C : Option Addr) (c : List CompV) (cc : Nat) (hsb : ∀ x ∈ s, x < 256) (hsl : s.length ≤ maxLen) (hla : a.length ≤ maxLen) (hga : ∀ y ∈ a, y.Good) (hlb : b.length ≤ maxLen) (hgb : ∀ y ∈ b, y.Good) (hlc : c.length ≤ maxLen) (hgc : ∀ y ∈ c, y.Good) (w : World) (hA : CompsC w A ca a) (hB : CompsC w B cb b) (hC : CompsC w C cc c) :
    Calls Try.prog 4 #[.string (bstr s), .slice A a.length ca, .slice B b.length cb, .slice C c.length cc] w fun e w' => e = .returned (.bool true) ∧ Below w.heap.size w w' := by
  have hsz := bstr_size s
  unfold maxLen at hsl
  have GA := Lib.hid (fun w => comAwake_any w)
  have GWa := Lib.hid (fun w h => alikeComps_c 1000 ca hla hga w (A := A) h)
  have GWb := Lib.hid (fun w h => alikeComps_c 1000 cb hlb hgb w (A := B) h)
  have GWc := Lib.hid (fun w h => alikeComps_c 1000 cc hlc hgc w (A := C) h)
  have HA := Lib.hid hA
  have HB := Lib.hid hB
  have HC := Lib.hid hC
  clear hA hB hC hla hlb hlc
  obtain ⟨Ta, HTa⟩ : ∃ x, Hid (compsWeight 1000 a = x) := ⟨_, rfl⟩
  obtain ⟨Tb, HTb⟩ : ∃ x, Hid (compsWeight 1000 b = x) := ⟨_, rfl⟩
  obtain ⟨Tc, HTc⟩ : ∃ x, Hid (compsWeight 1000 c = x) := ⟨_, rfl⟩
  rw [HTa.out] at GWa
  rw [HTb.out] at GWb
  rw [HTc.out] at GWc
  have HW0 := Lib.hid (Below.refl w.heap.size w)
  by_cases g0 : 500 < s.length
  · clear hga hgb hgc hsb
    go_enter Try.func4, Try.ntmps4
    go_wp2_with fail
    refine (GA.out _).mono ?_
    rintro e w1 ⟨rfl, hb⟩
    have HW1 : Hid (Below w.heap.size w w1) := HW0.out.trans (hb.mono HW0.out.size)
    replace HA := Lib.hid (HA.out.below hb)
    replace HB := Lib.hid (HB.out.below hb)
    replace HC := Lib.hid (HC.out.below hb)
    clear hb
    go_wp2
    go_ret
    exact ⟨rfl, HW1.out⟩
  have HSB := Lib.hid hsb
  clear hsb
  by_cases g1 : 1000 < Ta
  · clear hga hgb hgc
    go_enter Try.func4, Try.ntmps4
    go_wp2_with fail
    refine (GWa.out _ HA.out).mono ?_
    rintro e w1 ⟨rfl, hb⟩
    have HW1 : Hid (Below w.heap.size w w1) := HW0.out.trans (hb.mono HW0.out.size)
    replace HA := Lib.hid (HA.out.below hb)
    replace HB := Lib.hid (HB.out.below hb)
    replace HC := Lib.hid (HC.out.below hb)
    clear hb
    go_wp2_with fail
    refine (GA.out _).mono ?_
    rintro e w2 ⟨rfl, hb⟩
    have HW2 : Hid (Below w.heap.size w w2) := HW1.out.trans (hb.mono HW1.out.size)
    replace HA := Lib.hid (HA.out.below hb)
    replace HB := Lib.hid (HB.out.below hb)
    replace HC := Lib.hid (HC.out.below hb)
    clear hb
    go_wp2
    go_ret
    exact ⟨rfl, HW2.out⟩
  by_cases g2 : 1000 < Tb
  · clear hga hgb hgc
    go_enter Try.func4, Try.ntmps4
    go_wp2_with fail
    refine (GWa.out _ HA.out).mono ?_
    rintro e w1 ⟨rfl, hb⟩
    have HW1 : Hid (Below w.heap.size w w1) := HW0.out.trans (hb.mono HW0.out.size)
    replace HA := Lib.hid (HA.out.below hb)
    replace HB := Lib.hid (HB.out.below hb)
    replace HC := Lib.hid (HC.out.below hb)
    clear hb
    go_wp2_with fail
    refine (GWb.out _ HB.out).mono ?_
    rintro e w2 ⟨rfl, hb⟩
    have HW2 : Hid (Below w.heap.size w w2) := HW1.out.trans (hb.mono HW1.out.size)
    replace HA := Lib.hid (HA.out.below hb)
    replace HB := Lib.hid (HB.out.below hb)
    replace HC := Lib.hid (HC.out.below hb)
    clear hb
    go_wp2_with fail
    refine (GA.out _).mono ?_
    rintro e w3 ⟨rfl, hb⟩
    have HW3 : Hid (Below w.heap.size w w3) := HW2.out.trans (hb.mono HW2.out.size)
    replace HA := Lib.hid (HA.out.below hb)
    replace HB := Lib.hid (HB.out.below hb)
    replace HC := Lib.hid (HC.out.below hb)
    clear hb
    go_wp2
    go_ret
    exact ⟨rfl, HW3.out⟩
  by_cases g3 : 1000 < Tc
  · clear hga hgb hgc
    go_enter Try.func4, Try.ntmps4
    go_wp2_with fail
    refine (GWa.out _ HA.out).mono ?_
    rintro e w1 ⟨rfl, hb⟩
    have HW1 : Hid (Below w.heap.size w w1) := HW0.out.trans (hb.mono HW0.out.size)
    replace HA := Lib.hid (HA.out.below hb)
    replace HB := Lib.hid (HB.out.below hb)
    replace HC := Lib.hid (HC.out.below hb)
    clear hb
    go_wp2_with fail
    refine (GWb.out _ HB.out).mono ?_
    rintro e w2 ⟨rfl, hb⟩
    have HW2 : Hid (Below w.heap.size w w2) := HW1.out.trans (hb.mono HW1.out.size)
    replace HA := Lib.hid (HA.out.below hb)
    replace HB := Lib.hid (HB.out.below hb)
    replace HC := Lib.hid (HC.out.below hb)
    clear hb
    go_wp2_with fail
    refine (GWc.out _ HC.out).mono ?_
    rintro e w3 ⟨rfl, hb⟩
    have HW3 : Hid (Below w.heap.size w w3) := HW2.out.trans (hb.mono HW2.out.size)
    replace HA := Lib.hid (HA.out.below hb)
    replace HB := Lib.hid (HB.out.below hb)
    replace HC := Lib.hid (HC.out.below hb)
    clear hb
    go_wp2_with fail
    refine (GA.out _).mono ?_
    rintro e w4 ⟨rfl, hb⟩
    have HW4 : Hid (Below w.heap.size w w4) := HW3.out.trans (hb.mono HW3.out.size)
    replace HA := Lib.hid (HA.out.below hb)
    replace HB := Lib.hid (HB.out.below hb)
    replace HC := Lib.hid (HC.out.below hb)
    clear hb
    go_wp2
    go_ret
    exact ⟨rfl, HW4.out⟩
  have HEa := Lib.hid (held_of hga (weight_spec 1000 (by omega) a (by rw [HTa.out]; omega)) (by omega))
  have HEb := Lib.hid (held_of hgb (weight_spec 1000 (by omega) b (by rw [HTb.out]; omega)) (by omega))
  have HEc := Lib.hid (held_of hgc (weight_spec 1000 (by omega) c (by rw [HTc.out]; omega)) (by omega))
  clear hga hgb hgc
  have HSL : Hid (s.length ≤ 1073741824) := by show _ ≤ _; omega
  obtain ⟨X, HX⟩ : ∃ X, Hid (dTxt s a = X) := ⟨_, Lib.hid rfl⟩
  have hxs := dTxt_small s a
  rw [HX.out] at hxs
  have HXS := Lib.hid hxs
  clear hxs
  obtain ⟨Y, HY⟩ : ∃ Y, Hid (dTxt X b = Y) := ⟨_, Lib.hid rfl⟩
  by_cases e1 : dErr s a = 0
  · by_cases e2 : dErr X b = 0
    · have KD1 := Lib.hid (fun A c w h => kDo HX.out e1 HSB.out HSL.out HEa.out A c w h)
      have KD2 := Lib.hid (fun A c w h => kDo HY.out e2 HXS.out.1 (by have := HXS.out.2; omega) HEb.out A c w h)
      obtain ⟨oka, okb, hab, vs, hv, hvn, ht1, ht2⟩ := does_two e1 (by rw [HX.out]; exact e2)
      rw [HX.out] at ht1 ht2
      rw [HY.out] at ht2
      obtain ⟨D, t1, t2, t3, t4, t5⟩ := two_is oka okb hab
      have KT1 := Lib.hid (fun A ca B cb w h1 h2 => kTwo t1 HEa.out HEb.out A ca B cb w h1 h2)
      obtain ⟨k1, k2⟩ := keep_idle oka
      have hb1 := oka.base
      have hb2 := oka.out
      have hb3 := oka.base1
      have hb4 := oka.out1
      rw [hb1] at k1
      rw [hb2] at k2
      obtain ⟨nb, HNB⟩ : ∃ n : Nat, Hid (inS a = n) := ⟨_, Lib.hid rfl⟩
      obtain ⟨no, HNO⟩ : ∃ n : Nat, Hid (outS a = n) := ⟨_, Lib.hid rfl⟩
      rw [HNB.out] at k1 hb1 hb3
      rw [HNO.out] at k2 hb2 hb4
      have KBa := Lib.hid (fun A c w h => kBase hb1 HEa.out A c w h)
      have KOa := Lib.hid (fun A c w h => kOut hb2 HEa.out A c w h)
      have KTk := Lib.hid (fun A ca B cb w h1 h2 => kTwo k1 (keep_held (by unfold Fit64; omega)) HEa.out A ca B cb w h1 h2)
      have KTo := Lib.hid (fun A ca B cb w h1 h2 => kTwo k2 HEa.out (keep_held (by unfold Fit64; omega)) A ca B cb w h1 h2)
      have KK1 := Lib.hid (fun w => kKeep (nb : Int) w)
      have KK2 := Lib.hid (fun w => kKeep (no : Int) w)
      have HOK : Hid (Ok a ∧ Ok b ∧ outS a = inS b) := ⟨oka, okb, hab⟩
      have HVS : Hid (V s vs ∧ vs.length = inS a ∧ Y = E (ed b (ed a vs))) := ⟨hv, hvn, ht2⟩
      have HDI : Hid (Ch 0 D ∧ inS D = inS a ∧ outS D = outS b ∧ ∀ vs : List Nat, vs.length = inS a → ed D vs = ed b (ed a vs)) := ⟨t2, t3, t4, t5⟩
      clear oka okb hab hv hvn ht1 ht2 t1 t2 t3 t4 t5 k1 k2 hb1 hb2 hb3 hb4 e1 e2
      obtain ⟨P, j, hbc⟩ : ∃ P j, rTwo b c = (P, j) := ⟨_, _, rfl⟩
      have KTb := Lib.hid (fun A ca B cb w h1 h2 => kTwo hbc HEb.out HEc.out A ca B cb w h1 h2)
      by_cases hD : rCheck D = 0
      · have okD := ok_of hD
        have hdd := does_ok okD HVS.out.1 (by rw [HDI.out.2.1]; exact HVS.out.2.1)
        rw [HDI.out.2.2.2 vs HVS.out.2.1, ← HVS.out.2.2] at hdd
        have HDD := Lib.hid hdd
        have HCD := Lib.hid hD
        clear hdd hD
        by_cases hj : j = 0
        · subst hj
          obtain ⟨_, okc, hbc2⟩ := two_no (a := b) (b := c) (by rw [hbc])
          obtain ⟨P', p1, p2, p3, p4, p5⟩ := two_is HOK.out.2.1 okc hbc2
          have hPP : P = P' := by rw [hbc] at p1; exact (Prod.mk.inj p1).1
          subst hPP
          clear p1 hbc
          by_cases hP : rCheck P = 0
          · have okP := ok_of hP
            have HCP := Lib.hid hP
            obtain ⟨U, u1, u2, u3, u4, u5⟩ := two_is okD okc (by rw [HDI.out.2.2.1]; exact hbc2)
            obtain ⟨Q, q1, q2, q3, q4, q5⟩ := two_is HOK.out.1 okP (by rw [p3]; exact HOK.out.2.2)
            have HTU := Lib.hid u1
            have HTQ := Lib.hid q1
            have huq : ed U vs = ed Q vs := by
              have hl1 := HVS.out.2.1
              have hl2 := ed_length a vs HOK.out.1.wh (by omega)
              rw [u5 vs (by rw [HDI.out.2.1]; exact hl1), q5 vs hl1, HDI.out.2.2.2 vs hl1, p5 _ (by rw [hl2]; exact HOK.out.2.2)]
            have hUn : vs.length = inS U := by rw [u3, HDI.out.2.1]; exact HVS.out.2.1
            have hQn : vs.length = inS Q := by rw [q3]; exact HVS.out.2.1
            have HUQ := Lib.hid huq
            have HUN := Lib.hid hUn
            have HQN := Lib.hid hQn
            clear p2 p3 p4 p5 u1 u2 u3 u4 u5 q1 q2 q3 q4 q5 huq hUn hQn hP okP okD okc hbc2
            by_cases hU : rCheck U = 0
            · have HCU := Lib.hid hU
              have hdu := does_ok (ok_of hU) HVS.out.1 HUN.out
              have HDU := Lib.hid hdu
              clear hU hdu
              by_cases hQ : rCheck Q = 0
              · have HCQ := Lib.hid hQ
                have hdq := does_ok (ok_of hQ) HVS.out.1 HQN.out
                rw [← HUQ.out] at hdq
                have HDQ := Lib.hid hdq
                clear hQ hdq
                generalize E (ed U vs) = Z at HDU HDQ
                go_enter Try.func4, Try.ntmps4
                go_wp2_with fail
                refine (GWa.out _ HA.out).mono ?_
                rintro e w1 ⟨rfl, hb⟩
                have HW1 : Hid (Below w.heap.size w w1) := HW0.out.trans (hb.mono HW0.out.size)
                replace HA := Lib.hid (HA.out.below hb)
                replace HB := Lib.hid (HB.out.below hb)
                replace HC := Lib.hid (HC.out.below hb)
                clear hb
                go_wp2_with fail
                refine (GWb.out _ HB.out).mono ?_
                rintro e w2 ⟨rfl, hb⟩
                have HW2 : Hid (Below w.heap.size w w2) := HW1.out.trans (hb.mono HW1.out.size)
                replace HA := Lib.hid (HA.out.below hb)
                replace HB := Lib.hid (HB.out.below hb)
                replace HC := Lib.hid (HC.out.below hb)
                clear hb
                go_wp2_with fail
                refine (GWc.out _ HC.out).mono ?_
                rintro e w3 ⟨rfl, hb⟩
                have HW3 : Hid (Below w.heap.size w w3) := HW2.out.trans (hb.mono HW2.out.size)
                replace HA := Lib.hid (HA.out.below hb)
                replace HB := Lib.hid (HB.out.below hb)
                replace HC := Lib.hid (HC.out.below hb)
                clear hb
                go_wp2_with fail
                refine (KD1.out _ _ _ HA.out).mono ?_
                rintro e w4 ⟨rfl, hb⟩
                have HW4 : Hid (Below w.heap.size w w4) := HW3.out.trans (hb.mono HW3.out.size)
                replace HA := Lib.hid (HA.out.below hb)
                replace HB := Lib.hid (HB.out.below hb)
                replace HC := Lib.hid (HC.out.below hb)
                clear hb
                go_wp2_with fail
                refine (KD2.out _ _ _ HB.out).mono ?_
                rintro e w5 ⟨rfl, hb⟩
                have HW5 : Hid (Below w.heap.size w w5) := HW4.out.trans (hb.mono HW4.out.size)
                replace HA := Lib.hid (HA.out.below hb)
                replace HB := Lib.hid (HB.out.below hb)
                replace HC := Lib.hid (HC.out.below hb)
                clear hb
                go_wp2_with fail
                refine (KT1.out _ _ _ _ _ HA.out HB.out).mono ?_
                rintro e w6 ⟨⟨⟨A1, c1, rfl, hk⟩, hh⟩, hb⟩
                have HW6 : Hid (Below w.heap.size w w6) := HW5.out.trans (hb.mono HW5.out.size)
                replace HA := Lib.hid (HA.out.below hb)
                replace HB := Lib.hid (HB.out.below hb)
                replace HC := Lib.hid (HC.out.below hb)
                have HDA := Lib.hid hk
                have HHD := Lib.hid hh
                clear hk hh
                clear hb
                go_wp2_with fail
                refine (kCheck HCD.out HHD.out _ _ _ HDA.out).mono ?_
                rintro e w7 ⟨rfl, hb⟩
                have HW7 : Hid (Below w.heap.size w w7) := HW6.out.trans (hb.mono HW6.out.size)
                replace HA := Lib.hid (HA.out.below hb)
                replace HB := Lib.hid (HB.out.below hb)
                replace HC := Lib.hid (HC.out.below hb)
                replace HDA := Lib.hid (HDA.out.below hb)
                clear hb
                go_wp2_with fail
                refine (kDo HDD.out.2 HDD.out.1 HSB.out HSL.out HHD.out _ _ _ HDA.out).mono ?_
                rintro e w8 ⟨rfl, hb⟩
                have HW8 : Hid (Below w.heap.size w w8) := HW7.out.trans (hb.mono HW7.out.size)
                replace HA := Lib.hid (HA.out.below hb)
                replace HB := Lib.hid (HB.out.below hb)
                replace HC := Lib.hid (HC.out.below hb)
                replace HDA := Lib.hid (HDA.out.below hb)
                clear hb
                go_wp2_with fail
                refine (KBa.out _ _ _ HA.out).mono ?_
                rintro e w9 ⟨rfl, hb⟩
                have HW9 : Hid (Below w.heap.size w w9) := HW8.out.trans (hb.mono HW8.out.size)
                replace HA := Lib.hid (HA.out.below hb)
                replace HB := Lib.hid (HB.out.below hb)
                replace HC := Lib.hid (HC.out.below hb)
                replace HDA := Lib.hid (HDA.out.below hb)
                clear hb
                go_wp2_with fail
                refine (KK1.out _).mono ?_
                rintro e w10 ⟨⟨A2, c2, rfl, hk⟩, hb⟩
                have HW10 : Hid (Below w.heap.size w w10) := HW9.out.trans (hb.mono HW9.out.size)
                replace HA := Lib.hid (HA.out.below hb)
                replace HB := Lib.hid (HB.out.below hb)
                replace HC := Lib.hid (HC.out.below hb)
                replace HDA := Lib.hid (HDA.out.below hb)
                have HK1 := Lib.hid hk
                clear hk
                clear hb
                go_wp2_with fail
                refine (KTk.out _ _ _ _ _ HK1.out HA.out).mono ?_
                rintro e w11 ⟨⟨⟨A3, c3, rfl, hk⟩, hh⟩, hb⟩
                have HW11 : Hid (Below w.heap.size w w11) := HW10.out.trans (hb.mono HW10.out.size)
                replace HA := Lib.hid (HA.out.below hb)
                replace HB := Lib.hid (HB.out.below hb)
                replace HC := Lib.hid (HC.out.below hb)
                replace HDA := Lib.hid (HDA.out.below hb)
                replace HK1 := Lib.hid (HK1.out.below hb)
                have HPA := Lib.hid hk
                have HHP1 := Lib.hid hh
                clear hk hh
                clear hb
                go_wp2_with fail
                refine (KOa.out _ _ _ HA.out).mono ?_
                rintro e w12 ⟨rfl, hb⟩
                have HW12 : Hid (Below w.heap.size w w12) := HW11.out.trans (hb.mono HW11.out.size)
                replace HA := Lib.hid (HA.out.below hb)
                replace HB := Lib.hid (HB.out.below hb)
                replace HC := Lib.hid (HC.out.below hb)
                replace HDA := Lib.hid (HDA.out.below hb)
                replace HK1 := Lib.hid (HK1.out.below hb)
                replace HPA := Lib.hid (HPA.out.below hb)
                clear hb
                go_wp2_with fail
                refine (KK2.out _).mono ?_
                rintro e w13 ⟨⟨A4, c4, rfl, hk⟩, hb⟩
                have HW13 : Hid (Below w.heap.size w w13) := HW12.out.trans (hb.mono HW12.out.size)
                replace HA := Lib.hid (HA.out.below hb)
                replace HB := Lib.hid (HB.out.below hb)
                replace HC := Lib.hid (HC.out.below hb)
                replace HDA := Lib.hid (HDA.out.below hb)
                replace HK1 := Lib.hid (HK1.out.below hb)
                replace HPA := Lib.hid (HPA.out.below hb)
                have HK2 := Lib.hid hk
                clear hk
                clear hb
                go_wp2_with fail
                refine (KTo.out _ _ _ _ _ HA.out HK2.out).mono ?_
                rintro e w14 ⟨⟨⟨A5, c5, rfl, hk⟩, hh⟩, hb⟩
                have HW14 : Hid (Below w.heap.size w w14) := HW13.out.trans (hb.mono HW13.out.size)
                replace HA := Lib.hid (HA.out.below hb)
                replace HB := Lib.hid (HB.out.below hb)
                replace HC := Lib.hid (HC.out.below hb)
                replace HDA := Lib.hid (HDA.out.below hb)
                replace HK1 := Lib.hid (HK1.out.below hb)
                replace HPA := Lib.hid (HPA.out.below hb)
                replace HK2 := Lib.hid (HK2.out.below hb)
                have HQA := Lib.hid hk
                have HHQ1 := Lib.hid hh
                clear hk hh
                clear hb
                go_wp2_with fail
                refine (kSame HEa.out _ _ _ _ _ HPA.out HA.out).mono ?_
                rintro e w15 ⟨rfl, hb⟩
                have HW15 : Hid (Below w.heap.size w w15) := HW14.out.trans (hb.mono HW14.out.size)
                replace HA := Lib.hid (HA.out.below hb)
                replace HB := Lib.hid (HB.out.below hb)
                replace HC := Lib.hid (HC.out.below hb)
                replace HDA := Lib.hid (HDA.out.below hb)
                replace HK1 := Lib.hid (HK1.out.below hb)
                replace HPA := Lib.hid (HPA.out.below hb)
                replace HK2 := Lib.hid (HK2.out.below hb)
                replace HQA := Lib.hid (HQA.out.below hb)
                clear hb
                go_wp2_with fail
                refine (kSame HEa.out _ _ _ _ _ HQA.out HA.out).mono ?_
                rintro e w16 ⟨rfl, hb⟩
                have HW16 : Hid (Below w.heap.size w w16) := HW15.out.trans (hb.mono HW15.out.size)
                replace HA := Lib.hid (HA.out.below hb)
                replace HB := Lib.hid (HB.out.below hb)
                replace HC := Lib.hid (HC.out.below hb)
                replace HDA := Lib.hid (HDA.out.below hb)
                replace HK1 := Lib.hid (HK1.out.below hb)
                replace HPA := Lib.hid (HPA.out.below hb)
                replace HK2 := Lib.hid (HK2.out.below hb)
                replace HQA := Lib.hid (HQA.out.below hb)
                clear hb
                go_wp2_with fail
                refine (KTb.out _ _ _ _ _ HB.out HC.out).mono ?_
                rintro e w17 ⟨⟨⟨A6, c6, rfl, hk⟩, hh⟩, hb⟩
                have HW17 : Hid (Below w.heap.size w w17) := HW16.out.trans (hb.mono HW16.out.size)
                replace HA := Lib.hid (HA.out.below hb)
                replace HB := Lib.hid (HB.out.below hb)
                replace HC := Lib.hid (HC.out.below hb)
                replace HDA := Lib.hid (HDA.out.below hb)
                replace HK1 := Lib.hid (HK1.out.below hb)
                replace HPA := Lib.hid (HPA.out.below hb)
                replace HK2 := Lib.hid (HK2.out.below hb)
                replace HQA := Lib.hid (HQA.out.below hb)
                have HFA := Lib.hid hk
                have HHF := Lib.hid hh
                clear hk hh
                clear hb
                go_wp2_with fail
                refine (kCheck HCD.out HHD.out _ _ _ HDA.out).mono ?_
                rintro e w18 ⟨rfl, hb⟩
                have HW18 : Hid (Below w.heap.size w w18) := HW17.out.trans (hb.mono HW17.out.size)
                replace HA := Lib.hid (HA.out.below hb)
                replace HB := Lib.hid (HB.out.below hb)
                replace HC := Lib.hid (HC.out.below hb)
                replace HDA := Lib.hid (HDA.out.below hb)
                replace HK1 := Lib.hid (HK1.out.below hb)
                replace HPA := Lib.hid (HPA.out.below hb)
                replace HK2 := Lib.hid (HK2.out.below hb)
                replace HQA := Lib.hid (HQA.out.below hb)
                replace HFA := Lib.hid (HFA.out.below hb)
                clear hb
                go_wp2_with fail
                refine (kCheck HCP.out HHF.out _ _ _ HFA.out).mono ?_
                rintro e w19 ⟨rfl, hb⟩
                have HW19 : Hid (Below w.heap.size w w19) := HW18.out.trans (hb.mono HW18.out.size)
                replace HA := Lib.hid (HA.out.below hb)
                replace HB := Lib.hid (HB.out.below hb)
                replace HC := Lib.hid (HC.out.below hb)
                replace HDA := Lib.hid (HDA.out.below hb)
                replace HK1 := Lib.hid (HK1.out.below hb)
                replace HPA := Lib.hid (HPA.out.below hb)
                replace HK2 := Lib.hid (HK2.out.below hb)
                replace HQA := Lib.hid (HQA.out.below hb)
                replace HFA := Lib.hid (HFA.out.below hb)
                clear hb
                go_wp2_with fail
                refine (kTwo HTU.out HHD.out HEc.out _ _ _ _ _ HDA.out HC.out).mono ?_
                rintro e w20 ⟨⟨⟨A7, c7, rfl, hk⟩, hh⟩, hb⟩
                have HW20 : Hid (Below w.heap.size w w20) := HW19.out.trans (hb.mono HW19.out.size)
                replace HA := Lib.hid (HA.out.below hb)
                replace HB := Lib.hid (HB.out.below hb)
                replace HC := Lib.hid (HC.out.below hb)
                replace HDA := Lib.hid (HDA.out.below hb)
                replace HK1 := Lib.hid (HK1.out.below hb)
                replace HPA := Lib.hid (HPA.out.below hb)
                replace HK2 := Lib.hid (HK2.out.below hb)
                replace HQA := Lib.hid (HQA.out.below hb)
                replace HFA := Lib.hid (HFA.out.below hb)
                have HUA := Lib.hid hk
                have HHU := Lib.hid hh
                clear hk hh
                clear hb
                go_wp2_with fail
                refine (kTwo HTQ.out HEa.out HHF.out _ _ _ _ _ HA.out HFA.out).mono ?_
                rintro e w21 ⟨⟨⟨A8, c8, rfl, hk⟩, hh⟩, hb⟩
                have HW21 : Hid (Below w.heap.size w w21) := HW20.out.trans (hb.mono HW20.out.size)
                replace HA := Lib.hid (HA.out.below hb)
                replace HB := Lib.hid (HB.out.below hb)
                replace HC := Lib.hid (HC.out.below hb)
                replace HDA := Lib.hid (HDA.out.below hb)
                replace HK1 := Lib.hid (HK1.out.below hb)
                replace HPA := Lib.hid (HPA.out.below hb)
                replace HK2 := Lib.hid (HK2.out.below hb)
                replace HQA := Lib.hid (HQA.out.below hb)
                replace HFA := Lib.hid (HFA.out.below hb)
                replace HUA := Lib.hid (HUA.out.below hb)
                have HVA := Lib.hid hk
                have HHV := Lib.hid hh
                clear hk hh
                clear hb
                go_wp2_with fail
                refine (kCheck HCU.out HHU.out _ _ _ HUA.out).mono ?_
                rintro e w22 ⟨rfl, hb⟩
                have HW22 : Hid (Below w.heap.size w w22) := HW21.out.trans (hb.mono HW21.out.size)
                replace HA := Lib.hid (HA.out.below hb)
                replace HB := Lib.hid (HB.out.below hb)
                replace HC := Lib.hid (HC.out.below hb)
                replace HDA := Lib.hid (HDA.out.below hb)
                replace HK1 := Lib.hid (HK1.out.below hb)
                replace HPA := Lib.hid (HPA.out.below hb)
                replace HK2 := Lib.hid (HK2.out.below hb)
                replace HQA := Lib.hid (HQA.out.below hb)
                replace HFA := Lib.hid (HFA.out.below hb)
                replace HUA := Lib.hid (HUA.out.below hb)
                replace HVA := Lib.hid (HVA.out.below hb)
                clear hb
                go_wp2_with fail
                refine (kCheck HCQ.out HHV.out _ _ _ HVA.out).mono ?_
                rintro e w23 ⟨rfl, hb⟩
                have HW23 : Hid (Below w.heap.size w w23) := HW22.out.trans (hb.mono HW22.out.size)
                replace HA := Lib.hid (HA.out.below hb)
                replace HB := Lib.hid (HB.out.below hb)
                replace HC := Lib.hid (HC.out.below hb)
                replace HDA := Lib.hid (HDA.out.below hb)
                replace HK1 := Lib.hid (HK1.out.below hb)
                replace HPA := Lib.hid (HPA.out.below hb)
                replace HK2 := Lib.hid (HK2.out.below hb)
                replace HQA := Lib.hid (HQA.out.below hb)
                replace HFA := Lib.hid (HFA.out.below hb)
                replace HUA := Lib.hid (HUA.out.below hb)
                replace HVA := Lib.hid (HVA.out.below hb)
                clear hb
                go_wp2_with fail
                refine (kDo HDU.out.2 HDU.out.1 HSB.out HSL.out HHU.out _ _ _ HUA.out).mono ?_
                rintro e w24 ⟨rfl, hb⟩
                have HW24 : Hid (Below w.heap.size w w24) := HW23.out.trans (hb.mono HW23.out.size)
                replace HA := Lib.hid (HA.out.below hb)
                replace HB := Lib.hid (HB.out.below hb)
                replace HC := Lib.hid (HC.out.below hb)
                replace HDA := Lib.hid (HDA.out.below hb)
                replace HK1 := Lib.hid (HK1.out.below hb)
                replace HPA := Lib.hid (HPA.out.below hb)
                replace HK2 := Lib.hid (HK2.out.below hb)
                replace HQA := Lib.hid (HQA.out.below hb)
                replace HFA := Lib.hid (HFA.out.below hb)
                replace HUA := Lib.hid (HUA.out.below hb)
                replace HVA := Lib.hid (HVA.out.below hb)
                clear hb
                go_wp2_with fail
                refine (kDo HDQ.out.2 HDQ.out.1 HSB.out HSL.out HHV.out _ _ _ HVA.out).mono ?_
                rintro e w25 ⟨rfl, hb⟩
                have HW25 : Hid (Below w.heap.size w w25) := HW24.out.trans (hb.mono HW24.out.size)
                replace HA := Lib.hid (HA.out.below hb)
                replace HB := Lib.hid (HB.out.below hb)
                replace HC := Lib.hid (HC.out.below hb)
                replace HDA := Lib.hid (HDA.out.below hb)
                replace HK1 := Lib.hid (HK1.out.below hb)
                replace HPA := Lib.hid (HPA.out.below hb)
                replace HK2 := Lib.hid (HK2.out.below hb)
                replace HQA := Lib.hid (HQA.out.below hb)
                replace HFA := Lib.hid (HFA.out.below hb)
                replace HUA := Lib.hid (HUA.out.below hb)
                replace HVA := Lib.hid (HVA.out.below hb)
                clear hb
                go_wp2_with fail
                refine (GA.out _).mono ?_
                rintro e w26 ⟨rfl, hb⟩
                have HW26 : Hid (Below w.heap.size w w26) := HW25.out.trans (hb.mono HW25.out.size)
                replace HA := Lib.hid (HA.out.below hb)
                replace HB := Lib.hid (HB.out.below hb)
                replace HC := Lib.hid (HC.out.below hb)
                replace HDA := Lib.hid (HDA.out.below hb)
                replace HK1 := Lib.hid (HK1.out.below hb)
                replace HPA := Lib.hid (HPA.out.below hb)
                replace HK2 := Lib.hid (HK2.out.below hb)
                replace HQA := Lib.hid (HQA.out.below hb)
                replace HFA := Lib.hid (HFA.out.below hb)
                replace HUA := Lib.hid (HUA.out.below hb)
                replace HVA := Lib.hid (HVA.out.below hb)
                clear hb
                go_wp2
                go_ret
                exact ⟨rfl, HW26.out⟩
              · obtain ⟨q, HQ⟩ : ∃ q, Hid (rCheck Q = q) := ⟨_, Lib.hid rfl⟩
                rw [HQ.out] at hQ
                have hqb : ((q : Int) != 0) = true := bne_iff_ne.2 (by omega)
                clear hQ
                go_enter Try.func4, Try.ntmps4
                go_wp2_with fail
                refine (GWa.out _ HA.out).mono ?_
                rintro e w1 ⟨rfl, hb⟩
                have HW1 : Hid (Below w.heap.size w w1) := HW0.out.trans (hb.mono HW0.out.size)
                replace HA := Lib.hid (HA.out.below hb)
                replace HB := Lib.hid (HB.out.below hb)
                replace HC := Lib.hid (HC.out.below hb)
                clear hb
                go_wp2_with fail
                refine (GWb.out _ HB.out).mono ?_
                rintro e w2 ⟨rfl, hb⟩
                have HW2 : Hid (Below w.heap.size w w2) := HW1.out.trans (hb.mono HW1.out.size)
                replace HA := Lib.hid (HA.out.below hb)
                replace HB := Lib.hid (HB.out.below hb)
                replace HC := Lib.hid (HC.out.below hb)
                clear hb
                go_wp2_with fail
                refine (GWc.out _ HC.out).mono ?_
                rintro e w3 ⟨rfl, hb⟩
                have HW3 : Hid (Below w.heap.size w w3) := HW2.out.trans (hb.mono HW2.out.size)
                replace HA := Lib.hid (HA.out.below hb)
                replace HB := Lib.hid (HB.out.below hb)
                replace HC := Lib.hid (HC.out.below hb)
                clear hb
                go_wp2_with fail
                refine (KD1.out _ _ _ HA.out).mono ?_
                rintro e w4 ⟨rfl, hb⟩
                have HW4 : Hid (Below w.heap.size w w4) := HW3.out.trans (hb.mono HW3.out.size)
                replace HA := Lib.hid (HA.out.below hb)
                replace HB := Lib.hid (HB.out.below hb)
                replace HC := Lib.hid (HC.out.below hb)
                clear hb
                go_wp2_with fail
                refine (KD2.out _ _ _ HB.out).mono ?_
                rintro e w5 ⟨rfl, hb⟩
                have HW5 : Hid (Below w.heap.size w w5) := HW4.out.trans (hb.mono HW4.out.size)
                replace HA := Lib.hid (HA.out.below hb)
                replace HB := Lib.hid (HB.out.below hb)
                replace HC := Lib.hid (HC.out.below hb)
                clear hb
                go_wp2_with fail
                refine (KT1.out _ _ _ _ _ HA.out HB.out).mono ?_
                rintro e w6 ⟨⟨⟨A1, c1, rfl, hk⟩, hh⟩, hb⟩
                have HW6 : Hid (Below w.heap.size w w6) := HW5.out.trans (hb.mono HW5.out.size)
                replace HA := Lib.hid (HA.out.below hb)
                replace HB := Lib.hid (HB.out.below hb)
                replace HC := Lib.hid (HC.out.below hb)
                have HDA := Lib.hid hk
                have HHD := Lib.hid hh
                clear hk hh
                clear hb
                go_wp2_with fail
                refine (kCheck HCD.out HHD.out _ _ _ HDA.out).mono ?_
                rintro e w7 ⟨rfl, hb⟩
                have HW7 : Hid (Below w.heap.size w w7) := HW6.out.trans (hb.mono HW6.out.size)
                replace HA := Lib.hid (HA.out.below hb)
                replace HB := Lib.hid (HB.out.below hb)
                replace HC := Lib.hid (HC.out.below hb)
                replace HDA := Lib.hid (HDA.out.below hb)
                clear hb
                go_wp2_with fail
                refine (kDo HDD.out.2 HDD.out.1 HSB.out HSL.out HHD.out _ _ _ HDA.out).mono ?_
                rintro e w8 ⟨rfl, hb⟩
                have HW8 : Hid (Below w.heap.size w w8) := HW7.out.trans (hb.mono HW7.out.size)
                replace HA := Lib.hid (HA.out.below hb)
                replace HB := Lib.hid (HB.out.below hb)
                replace HC := Lib.hid (HC.out.below hb)
                replace HDA := Lib.hid (HDA.out.below hb)
                clear hb
                go_wp2_with fail
                refine (KBa.out _ _ _ HA.out).mono ?_
                rintro e w9 ⟨rfl, hb⟩
                have HW9 : Hid (Below w.heap.size w w9) := HW8.out.trans (hb.mono HW8.out.size)
                replace HA := Lib.hid (HA.out.below hb)
                replace HB := Lib.hid (HB.out.below hb)
                replace HC := Lib.hid (HC.out.below hb)
                replace HDA := Lib.hid (HDA.out.below hb)
                clear hb
                go_wp2_with fail
                refine (KK1.out _).mono ?_
                rintro e w10 ⟨⟨A2, c2, rfl, hk⟩, hb⟩
                have HW10 : Hid (Below w.heap.size w w10) := HW9.out.trans (hb.mono HW9.out.size)
                replace HA := Lib.hid (HA.out.below hb)
                replace HB := Lib.hid (HB.out.below hb)
                replace HC := Lib.hid (HC.out.below hb)
                replace HDA := Lib.hid (HDA.out.below hb)
                have HK1 := Lib.hid hk
                clear hk
                clear hb
                go_wp2_with fail
                refine (KTk.out _ _ _ _ _ HK1.out HA.out).mono ?_
                rintro e w11 ⟨⟨⟨A3, c3, rfl, hk⟩, hh⟩, hb⟩
                have HW11 : Hid (Below w.heap.size w w11) := HW10.out.trans (hb.mono HW10.out.size)
                replace HA := Lib.hid (HA.out.below hb)
                replace HB := Lib.hid (HB.out.below hb)
                replace HC := Lib.hid (HC.out.below hb)
                replace HDA := Lib.hid (HDA.out.below hb)
                replace HK1 := Lib.hid (HK1.out.below hb)
                have HPA := Lib.hid hk
                have HHP1 := Lib.hid hh
                clear hk hh
                clear hb
                go_wp2_with fail
                refine (KOa.out _ _ _ HA.out).mono ?_
                rintro e w12 ⟨rfl, hb⟩
                have HW12 : Hid (Below w.heap.size w w12) := HW11.out.trans (hb.mono HW11.out.size)
                replace HA := Lib.hid (HA.out.below hb)
                replace HB := Lib.hid (HB.out.below hb)
                replace HC := Lib.hid (HC.out.below hb)
                replace HDA := Lib.hid (HDA.out.below hb)
                replace HK1 := Lib.hid (HK1.out.below hb)
                replace HPA := Lib.hid (HPA.out.below hb)
                clear hb
                go_wp2_with fail
                refine (KK2.out _).mono ?_
                rintro e w13 ⟨⟨A4, c4, rfl, hk⟩, hb⟩
                have HW13 : Hid (Below w.heap.size w w13) := HW12.out.trans (hb.mono HW12.out.size)
                replace HA := Lib.hid (HA.out.below hb)
                replace HB := Lib.hid (HB.out.below hb)
                replace HC := Lib.hid (HC.out.below hb)
                replace HDA := Lib.hid (HDA.out.below hb)
                replace HK1 := Lib.hid (HK1.out.below hb)
                replace HPA := Lib.hid (HPA.out.below hb)
                have HK2 := Lib.hid hk
                clear hk
                clear hb
                go_wp2_with fail
                refine (KTo.out _ _ _ _ _ HA.out HK2.out).mono ?_
                rintro e w14 ⟨⟨⟨A5, c5, rfl, hk⟩, hh⟩, hb⟩
                have HW14 : Hid (Below w.heap.size w w14) := HW13.out.trans (hb.mono HW13.out.size)
                replace HA := Lib.hid (HA.out.below hb)
                replace HB := Lib.hid (HB.out.below hb)
                replace HC := Lib.hid (HC.out.below hb)
                replace HDA := Lib.hid (HDA.out.below hb)
                replace HK1 := Lib.hid (HK1.out.below hb)
                replace HPA := Lib.hid (HPA.out.below hb)
                replace HK2 := Lib.hid (HK2.out.below hb)
                have HQA := Lib.hid hk
                have HHQ1 := Lib.hid hh
                clear hk hh
                clear hb
                go_wp2_with fail
                refine (kSame HEa.out _ _ _ _ _ HPA.out HA.out).mono ?_
                rintro e w15 ⟨rfl, hb⟩
                have HW15 : Hid (Below w.heap.size w w15) := HW14.out.trans (hb.mono HW14.out.size)
                replace HA := Lib.hid (HA.out.below hb)
                replace HB := Lib.hid (HB.out.below hb)
                replace HC := Lib.hid (HC.out.below hb)
                replace HDA := Lib.hid (HDA.out.below hb)
                replace HK1 := Lib.hid (HK1.out.below hb)
                replace HPA := Lib.hid (HPA.out.below hb)
                replace HK2 := Lib.hid (HK2.out.below hb)
                replace HQA := Lib.hid (HQA.out.below hb)
                clear hb
                go_wp2_with fail
                refine (kSame HEa.out _ _ _ _ _ HQA.out HA.out).mono ?_
                rintro e w16 ⟨rfl, hb⟩
                have HW16 : Hid (Below w.heap.size w w16) := HW15.out.trans (hb.mono HW15.out.size)
                replace HA := Lib.hid (HA.out.below hb)
                replace HB := Lib.hid (HB.out.below hb)
                replace HC := Lib.hid (HC.out.below hb)
                replace HDA := Lib.hid (HDA.out.below hb)
                replace HK1 := Lib.hid (HK1.out.below hb)
                replace HPA := Lib.hid (HPA.out.below hb)
                replace HK2 := Lib.hid (HK2.out.below hb)
                replace HQA := Lib.hid (HQA.out.below hb)
                clear hb
                go_wp2_with fail
                refine (KTb.out _ _ _ _ _ HB.out HC.out).mono ?_
                rintro e w17 ⟨⟨⟨A6, c6, rfl, hk⟩, hh⟩, hb⟩
                have HW17 : Hid (Below w.heap.size w w17) := HW16.out.trans (hb.mono HW16.out.size)
                replace HA := Lib.hid (HA.out.below hb)
                replace HB := Lib.hid (HB.out.below hb)
                replace HC := Lib.hid (HC.out.below hb)
                replace HDA := Lib.hid (HDA.out.below hb)
                replace HK1 := Lib.hid (HK1.out.below hb)
                replace HPA := Lib.hid (HPA.out.below hb)
                replace HK2 := Lib.hid (HK2.out.below hb)
                replace HQA := Lib.hid (HQA.out.below hb)
                have HFA := Lib.hid hk
                have HHF := Lib.hid hh
                clear hk hh
                clear hb
                go_wp2_with fail
                refine (kCheck HCD.out HHD.out _ _ _ HDA.out).mono ?_
                rintro e w18 ⟨rfl, hb⟩
                have HW18 : Hid (Below w.heap.size w w18) := HW17.out.trans (hb.mono HW17.out.size)
                replace HA := Lib.hid (HA.out.below hb)
                replace HB := Lib.hid (HB.out.below hb)
                replace HC := Lib.hid (HC.out.below hb)
                replace HDA := Lib.hid (HDA.out.below hb)
                replace HK1 := Lib.hid (HK1.out.below hb)
                replace HPA := Lib.hid (HPA.out.below hb)
                replace HK2 := Lib.hid (HK2.out.below hb)
                replace HQA := Lib.hid (HQA.out.below hb)
                replace HFA := Lib.hid (HFA.out.below hb)
                clear hb
                go_wp2_with fail
                refine (kCheck HCP.out HHF.out _ _ _ HFA.out).mono ?_
                rintro e w19 ⟨rfl, hb⟩
                have HW19 : Hid (Below w.heap.size w w19) := HW18.out.trans (hb.mono HW18.out.size)
                replace HA := Lib.hid (HA.out.below hb)
                replace HB := Lib.hid (HB.out.below hb)
                replace HC := Lib.hid (HC.out.below hb)
                replace HDA := Lib.hid (HDA.out.below hb)
                replace HK1 := Lib.hid (HK1.out.below hb)
                replace HPA := Lib.hid (HPA.out.below hb)
                replace HK2 := Lib.hid (HK2.out.below hb)
                replace HQA := Lib.hid (HQA.out.below hb)
                replace HFA := Lib.hid (HFA.out.below hb)
                clear hb
                go_wp2_with fail
                refine (kTwo HTU.out HHD.out HEc.out _ _ _ _ _ HDA.out HC.out).mono ?_
                rintro e w20 ⟨⟨⟨A7, c7, rfl, hk⟩, hh⟩, hb⟩
                have HW20 : Hid (Below w.heap.size w w20) := HW19.out.trans (hb.mono HW19.out.size)
                replace HA := Lib.hid (HA.out.below hb)
                replace HB := Lib.hid (HB.out.below hb)
                replace HC := Lib.hid (HC.out.below hb)
                replace HDA := Lib.hid (HDA.out.below hb)
                replace HK1 := Lib.hid (HK1.out.below hb)
                replace HPA := Lib.hid (HPA.out.below hb)
                replace HK2 := Lib.hid (HK2.out.below hb)
                replace HQA := Lib.hid (HQA.out.below hb)
                replace HFA := Lib.hid (HFA.out.below hb)
                have HUA := Lib.hid hk
                have HHU := Lib.hid hh
                clear hk hh
                clear hb
                go_wp2_with fail
                refine (kTwo HTQ.out HEa.out HHF.out _ _ _ _ _ HA.out HFA.out).mono ?_
                rintro e w21 ⟨⟨⟨A8, c8, rfl, hk⟩, hh⟩, hb⟩
                have HW21 : Hid (Below w.heap.size w w21) := HW20.out.trans (hb.mono HW20.out.size)
                replace HA := Lib.hid (HA.out.below hb)
                replace HB := Lib.hid (HB.out.below hb)
                replace HC := Lib.hid (HC.out.below hb)
                replace HDA := Lib.hid (HDA.out.below hb)
                replace HK1 := Lib.hid (HK1.out.below hb)
                replace HPA := Lib.hid (HPA.out.below hb)
                replace HK2 := Lib.hid (HK2.out.below hb)
                replace HQA := Lib.hid (HQA.out.below hb)
                replace HFA := Lib.hid (HFA.out.below hb)
                replace HUA := Lib.hid (HUA.out.below hb)
                have HVA := Lib.hid hk
                have HHV := Lib.hid hh
                clear hk hh
                clear hb
                go_wp2_with fail
                refine (kCheck HCU.out HHU.out _ _ _ HUA.out).mono ?_
                rintro e w22 ⟨rfl, hb⟩
                have HW22 : Hid (Below w.heap.size w w22) := HW21.out.trans (hb.mono HW21.out.size)
                replace HA := Lib.hid (HA.out.below hb)
                replace HB := Lib.hid (HB.out.below hb)
                replace HC := Lib.hid (HC.out.below hb)
                replace HDA := Lib.hid (HDA.out.below hb)
                replace HK1 := Lib.hid (HK1.out.below hb)
                replace HPA := Lib.hid (HPA.out.below hb)
                replace HK2 := Lib.hid (HK2.out.below hb)
                replace HQA := Lib.hid (HQA.out.below hb)
                replace HFA := Lib.hid (HFA.out.below hb)
                replace HUA := Lib.hid (HUA.out.below hb)
                replace HVA := Lib.hid (HVA.out.below hb)
                clear hb
                go_wp2_with fail
                refine (kCheck HQ.out HHV.out _ _ _ HVA.out).mono ?_
                rintro e w23 ⟨rfl, hb⟩
                have HW23 : Hid (Below w.heap.size w w23) := HW22.out.trans (hb.mono HW22.out.size)
                replace HA := Lib.hid (HA.out.below hb)
                replace HB := Lib.hid (HB.out.below hb)
                replace HC := Lib.hid (HC.out.below hb)
                replace HDA := Lib.hid (HDA.out.below hb)
                replace HK1 := Lib.hid (HK1.out.below hb)
                replace HPA := Lib.hid (HPA.out.below hb)
                replace HK2 := Lib.hid (HK2.out.below hb)
                replace HQA := Lib.hid (HQA.out.below hb)
                replace HFA := Lib.hid (HFA.out.below hb)
                replace HUA := Lib.hid (HUA.out.below hb)
                replace HVA := Lib.hid (HVA.out.below hb)
                clear hb
                go_wp2_with fail
                refine (GA.out _).mono ?_
                rintro e w24 ⟨rfl, hb⟩
                have HW24 : Hid (Below w.heap.size w w24) := HW23.out.trans (hb.mono HW23.out.size)
                replace HA := Lib.hid (HA.out.below hb)
                replace HB := Lib.hid (HB.out.below hb)
                replace HC := Lib.hid (HC.out.below hb)
                replace HDA := Lib.hid (HDA.out.below hb)
                replace HK1 := Lib.hid (HK1.out.below hb)
                replace HPA := Lib.hid (HPA.out.below hb)
                replace HK2 := Lib.hid (HK2.out.below hb)
                replace HQA := Lib.hid (HQA.out.below hb)
                replace HFA := Lib.hid (HFA.out.below hb)
                replace HUA := Lib.hid (HUA.out.below hb)
                replace HVA := Lib.hid (HVA.out.below hb)
                clear hb
                go_wp2
                go_ret
                exact ⟨rfl, HW24.out⟩
            · obtain ⟨u, HU⟩ : ∃ u, Hid (rCheck U = u) := ⟨_, Lib.hid rfl⟩
              rw [HU.out] at hU
              have hub : ((u : Int) != 0) = true := bne_iff_ne.2 (by omega)
              clear hU
              go_enter Try.func4, Try.ntmps4
              go_wp2_with fail
              refine (GWa.out _ HA.out).mono ?_
              rintro e w1 ⟨rfl, hb⟩
              have HW1 : Hid (Below w.heap.size w w1) := HW0.out.trans (hb.mono HW0.out.size)
              replace HA := Lib.hid (HA.out.below hb)
              replace HB := Lib.hid (HB.out.below hb)
              replace HC := Lib.hid (HC.out.below hb)
              clear hb
              go_wp2_with fail
              refine (GWb.out _ HB.out).mono ?_
              rintro e w2 ⟨rfl, hb⟩
              have HW2 : Hid (Below w.heap.size w w2) := HW1.out.trans (hb.mono HW1.out.size)
              replace HA := Lib.hid (HA.out.below hb)
              replace HB := Lib.hid (HB.out.below hb)
              replace HC := Lib.hid (HC.out.below hb)
              clear hb
              go_wp2_with fail
              refine (GWc.out _ HC.out).mono ?_
              rintro e w3 ⟨rfl, hb⟩
              have HW3 : Hid (Below w.heap.size w w3) := HW2.out.trans (hb.mono HW2.out.size)
              replace HA := Lib.hid (HA.out.below hb)
              replace HB := Lib.hid (HB.out.below hb)
              replace HC := Lib.hid (HC.out.below hb)
              clear hb
              go_wp2_with fail
              refine (KD1.out _ _ _ HA.out).mono ?_
              rintro e w4 ⟨rfl, hb⟩
              have HW4 : Hid (Below w.heap.size w w4) := HW3.out.trans (hb.mono HW3.out.size)
              replace HA := Lib.hid (HA.out.below hb)
              replace HB := Lib.hid (HB.out.below hb)
              replace HC := Lib.hid (HC.out.below hb)
              clear hb
              go_wp2_with fail
              refine (KD2.out _ _ _ HB.out).mono ?_
              rintro e w5 ⟨rfl, hb⟩
              have HW5 : Hid (Below w.heap.size w w5) := HW4.out.trans (hb.mono HW4.out.size)
              replace HA := Lib.hid (HA.out.below hb)
              replace HB := Lib.hid (HB.out.below hb)
              replace HC := Lib.hid (HC.out.below hb)
              clear hb
              go_wp2_with fail
              refine (KT1.out _ _ _ _ _ HA.out HB.out).mono ?_
              rintro e w6 ⟨⟨⟨A1, c1, rfl, hk⟩, hh⟩, hb⟩
              have HW6 : Hid (Below w.heap.size w w6) := HW5.out.trans (hb.mono HW5.out.size)
              replace HA := Lib.hid (HA.out.below hb)
              replace HB := Lib.hid (HB.out.below hb)
              replace HC := Lib.hid (HC.out.below hb)
              have HDA := Lib.hid hk
              have HHD := Lib.hid hh
              clear hk hh
              clear hb
              go_wp2_with fail
              refine (kCheck HCD.out HHD.out _ _ _ HDA.out).mono ?_
              rintro e w7 ⟨rfl, hb⟩
              have HW7 : Hid (Below w.heap.size w w7) := HW6.out.trans (hb.mono HW6.out.size)
              replace HA := Lib.hid (HA.out.below hb)
              replace HB := Lib.hid (HB.out.below hb)
              replace HC := Lib.hid (HC.out.below hb)
              replace HDA := Lib.hid (HDA.out.below hb)
              clear hb
              go_wp2_with fail
              refine (kDo HDD.out.2 HDD.out.1 HSB.out HSL.out HHD.out _ _ _ HDA.out).mono ?_
              rintro e w8 ⟨rfl, hb⟩
              have HW8 : Hid (Below w.heap.size w w8) := HW7.out.trans (hb.mono HW7.out.size)
              replace HA := Lib.hid (HA.out.below hb)
              replace HB := Lib.hid (HB.out.below hb)
              replace HC := Lib.hid (HC.out.below hb)
              replace HDA := Lib.hid (HDA.out.below hb)
              clear hb
              go_wp2_with fail
              refine (KBa.out _ _ _ HA.out).mono ?_
              rintro e w9 ⟨rfl, hb⟩
              have HW9 : Hid (Below w.heap.size w w9) := HW8.out.trans (hb.mono HW8.out.size)
              replace HA := Lib.hid (HA.out.below hb)
              replace HB := Lib.hid (HB.out.below hb)
              replace HC := Lib.hid (HC.out.below hb)
              replace HDA := Lib.hid (HDA.out.below hb)
              clear hb
              go_wp2_with fail
              refine (KK1.out _).mono ?_
              rintro e w10 ⟨⟨A2, c2, rfl, hk⟩, hb⟩
              have HW10 : Hid (Below w.heap.size w w10) := HW9.out.trans (hb.mono HW9.out.size)
              replace HA := Lib.hid (HA.out.below hb)
              replace HB := Lib.hid (HB.out.below hb)
              replace HC := Lib.hid (HC.out.below hb)
              replace HDA := Lib.hid (HDA.out.below hb)
              have HK1 := Lib.hid hk
              clear hk
              clear hb
              go_wp2_with fail
              refine (KTk.out _ _ _ _ _ HK1.out HA.out).mono ?_
              rintro e w11 ⟨⟨⟨A3, c3, rfl, hk⟩, hh⟩, hb⟩
              have HW11 : Hid (Below w.heap.size w w11) := HW10.out.trans (hb.mono HW10.out.size)
              replace HA := Lib.hid (HA.out.below hb)
              replace HB := Lib.hid (HB.out.below hb)
              replace HC := Lib.hid (HC.out.below hb)
              replace HDA := Lib.hid (HDA.out.below hb)
              replace HK1 := Lib.hid (HK1.out.below hb)
              have HPA := Lib.hid hk
              have HHP1 := Lib.hid hh
              clear hk hh
              clear hb
              go_wp2_with fail
              refine (KOa.out _ _ _ HA.out).mono ?_
              rintro e w12 ⟨rfl, hb⟩
              have HW12 : Hid (Below w.heap.size w w12) := HW11.out.trans (hb.mono HW11.out.size)
              replace HA := Lib.hid (HA.out.below hb)
              replace HB := Lib.hid (HB.out.below hb)
              replace HC := Lib.hid (HC.out.below hb)
              replace HDA := Lib.hid (HDA.out.below hb)
              replace HK1 := Lib.hid (HK1.out.below hb)
              replace HPA := Lib.hid (HPA.out.below hb)
              clear hb
              go_wp2_with fail
              refine (KK2.out _).mono ?_
              rintro e w13 ⟨⟨A4, c4, rfl, hk⟩, hb⟩
              have HW13 : Hid (Below w.heap.size w w13) := HW12.out.trans (hb.mono HW12.out.size)
              replace HA := Lib.hid (HA.out.below hb)
              replace HB := Lib.hid (HB.out.below hb)
              replace HC := Lib.hid (HC.out.below hb)
              replace HDA := Lib.hid (HDA.out.below hb)
              replace HK1 := Lib.hid (HK1.out.below hb)
              replace HPA := Lib.hid (HPA.out.below hb)
              have HK2 := Lib.hid hk
              clear hk
              clear hb
              go_wp2_with fail
              refine (KTo.out _ _ _ _ _ HA.out HK2.out).mono ?_
              rintro e w14 ⟨⟨⟨A5, c5, rfl, hk⟩, hh⟩, hb⟩
              have HW14 : Hid (Below w.heap.size w w14) := HW13.out.trans (hb.mono HW13.out.size)
              replace HA := Lib.hid (HA.out.below hb)
              replace HB := Lib.hid (HB.out.below hb)
              replace HC := Lib.hid (HC.out.below hb)
              replace HDA := Lib.hid (HDA.out.below hb)
              replace HK1 := Lib.hid (HK1.out.below hb)
              replace HPA := Lib.hid (HPA.out.below hb)
              replace HK2 := Lib.hid (HK2.out.below hb)
              have HQA := Lib.hid hk
              have HHQ1 := Lib.hid hh
              clear hk hh
              clear hb
              go_wp2_with fail
              refine (kSame HEa.out _ _ _ _ _ HPA.out HA.out).mono ?_
              rintro e w15 ⟨rfl, hb⟩
              have HW15 : Hid (Below w.heap.size w w15) := HW14.out.trans (hb.mono HW14.out.size)
              replace HA := Lib.hid (HA.out.below hb)
              replace HB := Lib.hid (HB.out.below hb)
              replace HC := Lib.hid (HC.out.below hb)
              replace HDA := Lib.hid (HDA.out.below hb)
              replace HK1 := Lib.hid (HK1.out.below hb)
              replace HPA := Lib.hid (HPA.out.below hb)
              replace HK2 := Lib.hid (HK2.out.below hb)
              replace HQA := Lib.hid (HQA.out.below hb)
              clear hb
              go_wp2_with fail
              refine (kSame HEa.out _ _ _ _ _ HQA.out HA.out).mono ?_
              rintro e w16 ⟨rfl, hb⟩
              have HW16 : Hid (Below w.heap.size w w16) := HW15.out.trans (hb.mono HW15.out.size)
              replace HA := Lib.hid (HA.out.below hb)
              replace HB := Lib.hid (HB.out.below hb)
              replace HC := Lib.hid (HC.out.below hb)
              replace HDA := Lib.hid (HDA.out.below hb)
              replace HK1 := Lib.hid (HK1.out.below hb)
              replace HPA := Lib.hid (HPA.out.below hb)
              replace HK2 := Lib.hid (HK2.out.below hb)
              replace HQA := Lib.hid (HQA.out.below hb)
              clear hb
              go_wp2_with fail
              refine (KTb.out _ _ _ _ _ HB.out HC.out).mono ?_
              rintro e w17 ⟨⟨⟨A6, c6, rfl, hk⟩, hh⟩, hb⟩
              have HW17 : Hid (Below w.heap.size w w17) := HW16.out.trans (hb.mono HW16.out.size)
              replace HA := Lib.hid (HA.out.below hb)
              replace HB := Lib.hid (HB.out.below hb)
              replace HC := Lib.hid (HC.out.below hb)
              replace HDA := Lib.hid (HDA.out.below hb)
              replace HK1 := Lib.hid (HK1.out.below hb)
              replace HPA := Lib.hid (HPA.out.below hb)
              replace HK2 := Lib.hid (HK2.out.below hb)
              replace HQA := Lib.hid (HQA.out.below hb)
              have HFA := Lib.hid hk
              have HHF := Lib.hid hh
              clear hk hh
              clear hb
              go_wp2_with fail
              refine (kCheck HCD.out HHD.out _ _ _ HDA.out).mono ?_
              rintro e w18 ⟨rfl, hb⟩
              have HW18 : Hid (Below w.heap.size w w18) := HW17.out.trans (hb.mono HW17.out.size)
              replace HA := Lib.hid (HA.out.below hb)
              replace HB := Lib.hid (HB.out.below hb)
              replace HC := Lib.hid (HC.out.below hb)
              replace HDA := Lib.hid (HDA.out.below hb)
              replace HK1 := Lib.hid (HK1.out.below hb)
              replace HPA := Lib.hid (HPA.out.below hb)
              replace HK2 := Lib.hid (HK2.out.below hb)
              replace HQA := Lib.hid (HQA.out.below hb)
              replace HFA := Lib.hid (HFA.out.below hb)
              clear hb
              go_wp2_with fail
              refine (kCheck HCP.out HHF.out _ _ _ HFA.out).mono ?_
              rintro e w19 ⟨rfl, hb⟩
              have HW19 : Hid (Below w.heap.size w w19) := HW18.out.trans (hb.mono HW18.out.size)
              replace HA := Lib.hid (HA.out.below hb)
              replace HB := Lib.hid (HB.out.below hb)
              replace HC := Lib.hid (HC.out.below hb)
              replace HDA := Lib.hid (HDA.out.below hb)
              replace HK1 := Lib.hid (HK1.out.below hb)
              replace HPA := Lib.hid (HPA.out.below hb)
              replace HK2 := Lib.hid (HK2.out.below hb)
              replace HQA := Lib.hid (HQA.out.below hb)
              replace HFA := Lib.hid (HFA.out.below hb)
              clear hb
              go_wp2_with fail
              refine (kTwo HTU.out HHD.out HEc.out _ _ _ _ _ HDA.out HC.out).mono ?_
              rintro e w20 ⟨⟨⟨A7, c7, rfl, hk⟩, hh⟩, hb⟩
              have HW20 : Hid (Below w.heap.size w w20) := HW19.out.trans (hb.mono HW19.out.size)
              replace HA := Lib.hid (HA.out.below hb)
              replace HB := Lib.hid (HB.out.below hb)
              replace HC := Lib.hid (HC.out.below hb)
              replace HDA := Lib.hid (HDA.out.below hb)
              replace HK1 := Lib.hid (HK1.out.below hb)
              replace HPA := Lib.hid (HPA.out.below hb)
              replace HK2 := Lib.hid (HK2.out.below hb)
              replace HQA := Lib.hid (HQA.out.below hb)
              replace HFA := Lib.hid (HFA.out.below hb)
              have HUA := Lib.hid hk
              have HHU := Lib.hid hh
              clear hk hh
              clear hb
              go_wp2_with fail
              refine (kTwo HTQ.out HEa.out HHF.out _ _ _ _ _ HA.out HFA.out).mono ?_
              rintro e w21 ⟨⟨⟨A8, c8, rfl, hk⟩, hh⟩, hb⟩
              have HW21 : Hid (Below w.heap.size w w21) := HW20.out.trans (hb.mono HW20.out.size)
              replace HA := Lib.hid (HA.out.below hb)
              replace HB := Lib.hid (HB.out.below hb)
              replace HC := Lib.hid (HC.out.below hb)
              replace HDA := Lib.hid (HDA.out.below hb)
              replace HK1 := Lib.hid (HK1.out.below hb)
              replace HPA := Lib.hid (HPA.out.below hb)
              replace HK2 := Lib.hid (HK2.out.below hb)
              replace HQA := Lib.hid (HQA.out.below hb)
              replace HFA := Lib.hid (HFA.out.below hb)
              replace HUA := Lib.hid (HUA.out.below hb)
              have HVA := Lib.hid hk
              have HHV := Lib.hid hh
              clear hk hh
              clear hb
              go_wp2_with fail
              refine (kCheck HU.out HHU.out _ _ _ HUA.out).mono ?_
              rintro e w22 ⟨rfl, hb⟩
              have HW22 : Hid (Below w.heap.size w w22) := HW21.out.trans (hb.mono HW21.out.size)
              replace HA := Lib.hid (HA.out.below hb)
              replace HB := Lib.hid (HB.out.below hb)
              replace HC := Lib.hid (HC.out.below hb)
              replace HDA := Lib.hid (HDA.out.below hb)
              replace HK1 := Lib.hid (HK1.out.below hb)
              replace HPA := Lib.hid (HPA.out.below hb)
              replace HK2 := Lib.hid (HK2.out.below hb)
              replace HQA := Lib.hid (HQA.out.below hb)
              replace HFA := Lib.hid (HFA.out.below hb)
              replace HUA := Lib.hid (HUA.out.below hb)
              replace HVA := Lib.hid (HVA.out.below hb)
              clear hb
              go_wp2_with fail
              refine (GA.out _).mono ?_
              rintro e w23 ⟨rfl, hb⟩
              have HW23 : Hid (Below w.heap.size w w23) := HW22.out.trans (hb.mono HW22.out.size)
              replace HA := Lib.hid (HA.out.below hb)
              replace HB := Lib.hid (HB.out.below hb)
              replace HC := Lib.hid (HC.out.below hb)
              replace HDA := Lib.hid (HDA.out.below hb)
              replace HK1 := Lib.hid (HK1.out.below hb)
              replace HPA := Lib.hid (HPA.out.below hb)
              replace HK2 := Lib.hid (HK2.out.below hb)
              replace HQA := Lib.hid (HQA.out.below hb)
              replace HFA := Lib.hid (HFA.out.below hb)
              replace HUA := Lib.hid (HUA.out.below hb)
              replace HVA := Lib.hid (HVA.out.below hb)
              clear hb
              go_wp2
              go_ret
              exact ⟨rfl, HW23.out⟩
          · obtain ⟨p, HP⟩ : ∃ p, Hid (rCheck P = p) := ⟨_, Lib.hid rfl⟩
            rw [HP.out] at hP
            have hpb : ((p : Int) != 0) = true := bne_iff_ne.2 (by omega)
            clear hP okD okc hbc2 p2 p3 p4 p5
            go_enter Try.func4, Try.ntmps4
            go_wp2_with fail
            refine (GWa.out _ HA.out).mono ?_
            rintro e w1 ⟨rfl, hb⟩
            have HW1 : Hid (Below w.heap.size w w1) := HW0.out.trans (hb.mono HW0.out.size)
            replace HA := Lib.hid (HA.out.below hb)
            replace HB := Lib.hid (HB.out.below hb)
            replace HC := Lib.hid (HC.out.below hb)
            clear hb
            go_wp2_with fail
            refine (GWb.out _ HB.out).mono ?_
            rintro e w2 ⟨rfl, hb⟩
            have HW2 : Hid (Below w.heap.size w w2) := HW1.out.trans (hb.mono HW1.out.size)
            replace HA := Lib.hid (HA.out.below hb)
            replace HB := Lib.hid (HB.out.below hb)
            replace HC := Lib.hid (HC.out.below hb)
            clear hb
            go_wp2_with fail
            refine (GWc.out _ HC.out).mono ?_
            rintro e w3 ⟨rfl, hb⟩
            have HW3 : Hid (Below w.heap.size w w3) := HW2.out.trans (hb.mono HW2.out.size)
            replace HA := Lib.hid (HA.out.below hb)
            replace HB := Lib.hid (HB.out.below hb)
            replace HC := Lib.hid (HC.out.below hb)
            clear hb
            go_wp2_with fail
            refine (KD1.out _ _ _ HA.out).mono ?_
            rintro e w4 ⟨rfl, hb⟩
            have HW4 : Hid (Below w.heap.size w w4) := HW3.out.trans (hb.mono HW3.out.size)
            replace HA := Lib.hid (HA.out.below hb)
            replace HB := Lib.hid (HB.out.below hb)
            replace HC := Lib.hid (HC.out.below hb)
            clear hb
            go_wp2_with fail
            refine (KD2.out _ _ _ HB.out).mono ?_
            rintro e w5 ⟨rfl, hb⟩
            have HW5 : Hid (Below w.heap.size w w5) := HW4.out.trans (hb.mono HW4.out.size)
            replace HA := Lib.hid (HA.out.below hb)
            replace HB := Lib.hid (HB.out.below hb)
            replace HC := Lib.hid (HC.out.below hb)
            clear hb
            go_wp2_with fail
            refine (KT1.out _ _ _ _ _ HA.out HB.out).mono ?_
            rintro e w6 ⟨⟨⟨A1, c1, rfl, hk⟩, hh⟩, hb⟩
            have HW6 : Hid (Below w.heap.size w w6) := HW5.out.trans (hb.mono HW5.out.size)
            replace HA := Lib.hid (HA.out.below hb)
            replace HB := Lib.hid (HB.out.below hb)
            replace HC := Lib.hid (HC.out.below hb)
            have HDA := Lib.hid hk
            have HHD := Lib.hid hh
            clear hk hh
            clear hb
            go_wp2_with fail
            refine (kCheck HCD.out HHD.out _ _ _ HDA.out).mono ?_
            rintro e w7 ⟨rfl, hb⟩
            have HW7 : Hid (Below w.heap.size w w7) := HW6.out.trans (hb.mono HW6.out.size)
            replace HA := Lib.hid (HA.out.below hb)
            replace HB := Lib.hid (HB.out.below hb)
            replace HC := Lib.hid (HC.out.below hb)
            replace HDA := Lib.hid (HDA.out.below hb)
            clear hb
            go_wp2_with fail
            refine (kDo HDD.out.2 HDD.out.1 HSB.out HSL.out HHD.out _ _ _ HDA.out).mono ?_
            rintro e w8 ⟨rfl, hb⟩
            have HW8 : Hid (Below w.heap.size w w8) := HW7.out.trans (hb.mono HW7.out.size)
            replace HA := Lib.hid (HA.out.below hb)
            replace HB := Lib.hid (HB.out.below hb)
            replace HC := Lib.hid (HC.out.below hb)
            replace HDA := Lib.hid (HDA.out.below hb)
            clear hb
            go_wp2_with fail
            refine (KBa.out _ _ _ HA.out).mono ?_
            rintro e w9 ⟨rfl, hb⟩
            have HW9 : Hid (Below w.heap.size w w9) := HW8.out.trans (hb.mono HW8.out.size)
            replace HA := Lib.hid (HA.out.below hb)
            replace HB := Lib.hid (HB.out.below hb)
            replace HC := Lib.hid (HC.out.below hb)
            replace HDA := Lib.hid (HDA.out.below hb)
            clear hb
            go_wp2_with fail
            refine (KK1.out _).mono ?_
            rintro e w10 ⟨⟨A2, c2, rfl, hk⟩, hb⟩
            have HW10 : Hid (Below w.heap.size w w10) := HW9.out.trans (hb.mono HW9.out.size)
            replace HA := Lib.hid (HA.out.below hb)
            replace HB := Lib.hid (HB.out.below hb)
            replace HC := Lib.hid (HC.out.below hb)
            replace HDA := Lib.hid (HDA.out.below hb)
            have HK1 := Lib.hid hk
            clear hk
            clear hb
            go_wp2_with fail
            refine (KTk.out _ _ _ _ _ HK1.out HA.out).mono ?_
            rintro e w11 ⟨⟨⟨A3, c3, rfl, hk⟩, hh⟩, hb⟩
            have HW11 : Hid (Below w.heap.size w w11) := HW10.out.trans (hb.mono HW10.out.size)
            replace HA := Lib.hid (HA.out.below hb)
            replace HB := Lib.hid (HB.out.below hb)
            replace HC := Lib.hid (HC.out.below hb)
            replace HDA := Lib.hid (HDA.out.below hb)
            replace HK1 := Lib.hid (HK1.out.below hb)
            have HPA := Lib.hid hk
            have HHP1 := Lib.hid hh
            clear hk hh
            clear hb
            go_wp2_with fail
            refine (KOa.out _ _ _ HA.out).mono ?_
            rintro e w12 ⟨rfl, hb⟩
            have HW12 : Hid (Below w.heap.size w w12) := HW11.out.trans (hb.mono HW11.out.size)
            replace HA := Lib.hid (HA.out.below hb)
            replace HB := Lib.hid (HB.out.below hb)
            replace HC := Lib.hid (HC.out.below hb)
            replace HDA := Lib.hid (HDA.out.below hb)
            replace HK1 := Lib.hid (HK1.out.below hb)
            replace HPA := Lib.hid (HPA.out.below hb)
            clear hb
            go_wp2_with fail
            refine (KK2.out _).mono ?_
            rintro e w13 ⟨⟨A4, c4, rfl, hk⟩, hb⟩
            have HW13 : Hid (Below w.heap.size w w13) := HW12.out.trans (hb.mono HW12.out.size)
            replace HA := Lib.hid (HA.out.below hb)
            replace HB := Lib.hid (HB.out.below hb)
            replace HC := Lib.hid (HC.out.below hb)
            replace HDA := Lib.hid (HDA.out.below hb)
            replace HK1 := Lib.hid (HK1.out.below hb)
            replace HPA := Lib.hid (HPA.out.below hb)
            have HK2 := Lib.hid hk
            clear hk
            clear hb
            go_wp2_with fail
            refine (KTo.out _ _ _ _ _ HA.out HK2.out).mono ?_
            rintro e w14 ⟨⟨⟨A5, c5, rfl, hk⟩, hh⟩, hb⟩
            have HW14 : Hid (Below w.heap.size w w14) := HW13.out.trans (hb.mono HW13.out.size)
            replace HA := Lib.hid (HA.out.below hb)
            replace HB := Lib.hid (HB.out.below hb)
            replace HC := Lib.hid (HC.out.below hb)
            replace HDA := Lib.hid (HDA.out.below hb)
            replace HK1 := Lib.hid (HK1.out.below hb)
            replace HPA := Lib.hid (HPA.out.below hb)
            replace HK2 := Lib.hid (HK2.out.below hb)
            have HQA := Lib.hid hk
            have HHQ1 := Lib.hid hh
            clear hk hh
            clear hb
            go_wp2_with fail
            refine (kSame HEa.out _ _ _ _ _ HPA.out HA.out).mono ?_
            rintro e w15 ⟨rfl, hb⟩
            have HW15 : Hid (Below w.heap.size w w15) := HW14.out.trans (hb.mono HW14.out.size)
            replace HA := Lib.hid (HA.out.below hb)
            replace HB := Lib.hid (HB.out.below hb)
            replace HC := Lib.hid (HC.out.below hb)
            replace HDA := Lib.hid (HDA.out.below hb)
            replace HK1 := Lib.hid (HK1.out.below hb)
            replace HPA := Lib.hid (HPA.out.below hb)
            replace HK2 := Lib.hid (HK2.out.below hb)
            replace HQA := Lib.hid (HQA.out.below hb)
            clear hb
            go_wp2_with fail
            refine (kSame HEa.out _ _ _ _ _ HQA.out HA.out).mono ?_
            rintro e w16 ⟨rfl, hb⟩
            have HW16 : Hid (Below w.heap.size w w16) := HW15.out.trans (hb.mono HW15.out.size)
            replace HA := Lib.hid (HA.out.below hb)
            replace HB := Lib.hid (HB.out.below hb)
            replace HC := Lib.hid (HC.out.below hb)
            replace HDA := Lib.hid (HDA.out.below hb)
            replace HK1 := Lib.hid (HK1.out.below hb)
            replace HPA := Lib.hid (HPA.out.below hb)
            replace HK2 := Lib.hid (HK2.out.below hb)
            replace HQA := Lib.hid (HQA.out.below hb)
            clear hb
            go_wp2_with fail
            refine (KTb.out _ _ _ _ _ HB.out HC.out).mono ?_
            rintro e w17 ⟨⟨⟨A6, c6, rfl, hk⟩, hh⟩, hb⟩
            have HW17 : Hid (Below w.heap.size w w17) := HW16.out.trans (hb.mono HW16.out.size)
            replace HA := Lib.hid (HA.out.below hb)
            replace HB := Lib.hid (HB.out.below hb)
            replace HC := Lib.hid (HC.out.below hb)
            replace HDA := Lib.hid (HDA.out.below hb)
            replace HK1 := Lib.hid (HK1.out.below hb)
            replace HPA := Lib.hid (HPA.out.below hb)
            replace HK2 := Lib.hid (HK2.out.below hb)
            replace HQA := Lib.hid (HQA.out.below hb)
            have HFA := Lib.hid hk
            have HHF := Lib.hid hh
            clear hk hh
            clear hb
            go_wp2_with fail
            refine (kCheck HCD.out HHD.out _ _ _ HDA.out).mono ?_
            rintro e w18 ⟨rfl, hb⟩
            have HW18 : Hid (Below w.heap.size w w18) := HW17.out.trans (hb.mono HW17.out.size)
            replace HA := Lib.hid (HA.out.below hb)
            replace HB := Lib.hid (HB.out.below hb)
            replace HC := Lib.hid (HC.out.below hb)
            replace HDA := Lib.hid (HDA.out.below hb)
            replace HK1 := Lib.hid (HK1.out.below hb)
            replace HPA := Lib.hid (HPA.out.below hb)
            replace HK2 := Lib.hid (HK2.out.below hb)
            replace HQA := Lib.hid (HQA.out.below hb)
            replace HFA := Lib.hid (HFA.out.below hb)
            clear hb
            go_wp2_with fail
            refine (kCheck HP.out HHF.out _ _ _ HFA.out).mono ?_
            rintro e w19 ⟨rfl, hb⟩
            have HW19 : Hid (Below w.heap.size w w19) := HW18.out.trans (hb.mono HW18.out.size)
            replace HA := Lib.hid (HA.out.below hb)
            replace HB := Lib.hid (HB.out.below hb)
            replace HC := Lib.hid (HC.out.below hb)
            replace HDA := Lib.hid (HDA.out.below hb)
            replace HK1 := Lib.hid (HK1.out.below hb)
            replace HPA := Lib.hid (HPA.out.below hb)
            replace HK2 := Lib.hid (HK2.out.below hb)
            replace HQA := Lib.hid (HQA.out.below hb)
            replace HFA := Lib.hid (HFA.out.below hb)
            clear hb
            go_wp2_with fail
            refine (GA.out _).mono ?_
            rintro e w20 ⟨rfl, hb⟩
            have HW20 : Hid (Below w.heap.size w w20) := HW19.out.trans (hb.mono HW19.out.size)
            replace HA := Lib.hid (HA.out.below hb)
            replace HB := Lib.hid (HB.out.below hb)
            replace HC := Lib.hid (HC.out.below hb)
            replace HDA := Lib.hid (HDA.out.below hb)
            replace HK1 := Lib.hid (HK1.out.below hb)
            replace HPA := Lib.hid (HPA.out.below hb)
            replace HK2 := Lib.hid (HK2.out.below hb)
            replace HQA := Lib.hid (HQA.out.below hb)
            replace HFA := Lib.hid (HFA.out.below hb)
            clear hb
            go_wp2
            go_ret
            exact ⟨rfl, HW20.out⟩
        · have hjb : ((j : Int) != 0) = true := bne_iff_ne.2 (by omega)
          clear hj hbc okD
          go_enter Try.func4, Try.ntmps4
          go_wp2_with fail
          refine (GWa.out _ HA.out).mono ?_
          rintro e w1 ⟨rfl, hb⟩
          have HW1 : Hid (Below w.heap.size w w1) := HW0.out.trans (hb.mono HW0.out.size)
          replace HA := Lib.hid (HA.out.below hb)
          replace HB := Lib.hid (HB.out.below hb)
          replace HC := Lib.hid (HC.out.below hb)
          clear hb
          go_wp2_with fail
          refine (GWb.out _ HB.out).mono ?_
          rintro e w2 ⟨rfl, hb⟩
          have HW2 : Hid (Below w.heap.size w w2) := HW1.out.trans (hb.mono HW1.out.size)
          replace HA := Lib.hid (HA.out.below hb)
          replace HB := Lib.hid (HB.out.below hb)
          replace HC := Lib.hid (HC.out.below hb)
          clear hb
          go_wp2_with fail
          refine (GWc.out _ HC.out).mono ?_
          rintro e w3 ⟨rfl, hb⟩
          have HW3 : Hid (Below w.heap.size w w3) := HW2.out.trans (hb.mono HW2.out.size)
          replace HA := Lib.hid (HA.out.below hb)
          replace HB := Lib.hid (HB.out.below hb)
          replace HC := Lib.hid (HC.out.below hb)
          clear hb
          go_wp2_with fail
          refine (KD1.out _ _ _ HA.out).mono ?_
          rintro e w4 ⟨rfl, hb⟩
          have HW4 : Hid (Below w.heap.size w w4) := HW3.out.trans (hb.mono HW3.out.size)
          replace HA := Lib.hid (HA.out.below hb)
          replace HB := Lib.hid (HB.out.below hb)
          replace HC := Lib.hid (HC.out.below hb)
          clear hb
          go_wp2_with fail
          refine (KD2.out _ _ _ HB.out).mono ?_
          rintro e w5 ⟨rfl, hb⟩
          have HW5 : Hid (Below w.heap.size w w5) := HW4.out.trans (hb.mono HW4.out.size)
          replace HA := Lib.hid (HA.out.below hb)
          replace HB := Lib.hid (HB.out.below hb)
          replace HC := Lib.hid (HC.out.below hb)
          clear hb
          go_wp2_with fail
          refine (KT1.out _ _ _ _ _ HA.out HB.out).mono ?_
          rintro e w6 ⟨⟨⟨A1, c1, rfl, hk⟩, hh⟩, hb⟩
          have HW6 : Hid (Below w.heap.size w w6) := HW5.out.trans (hb.mono HW5.out.size)
          replace HA := Lib.hid (HA.out.below hb)
          replace HB := Lib.hid (HB.out.below hb)
          replace HC := Lib.hid (HC.out.below hb)
          have HDA := Lib.hid hk
          have HHD := Lib.hid hh
          clear hk hh
          clear hb
          go_wp2_with fail
          refine (kCheck HCD.out HHD.out _ _ _ HDA.out).mono ?_
          rintro e w7 ⟨rfl, hb⟩
          have HW7 : Hid (Below w.heap.size w w7) := HW6.out.trans (hb.mono HW6.out.size)
          replace HA := Lib.hid (HA.out.below hb)
          replace HB := Lib.hid (HB.out.below hb)
          replace HC := Lib.hid (HC.out.below hb)
          replace HDA := Lib.hid (HDA.out.below hb)
          clear hb
          go_wp2_with fail
          refine (kDo HDD.out.2 HDD.out.1 HSB.out HSL.out HHD.out _ _ _ HDA.out).mono ?_
          rintro e w8 ⟨rfl, hb⟩
          have HW8 : Hid (Below w.heap.size w w8) := HW7.out.trans (hb.mono HW7.out.size)
          replace HA := Lib.hid (HA.out.below hb)
          replace HB := Lib.hid (HB.out.below hb)
          replace HC := Lib.hid (HC.out.below hb)
          replace HDA := Lib.hid (HDA.out.below hb)
          clear hb
          go_wp2_with fail
          refine (KBa.out _ _ _ HA.out).mono ?_
          rintro e w9 ⟨rfl, hb⟩
          have HW9 : Hid (Below w.heap.size w w9) := HW8.out.trans (hb.mono HW8.out.size)
          replace HA := Lib.hid (HA.out.below hb)
          replace HB := Lib.hid (HB.out.below hb)
          replace HC := Lib.hid (HC.out.below hb)
          replace HDA := Lib.hid (HDA.out.below hb)
          clear hb
          go_wp2_with fail
          refine (KK1.out _).mono ?_
          rintro e w10 ⟨⟨A2, c2, rfl, hk⟩, hb⟩
          have HW10 : Hid (Below w.heap.size w w10) := HW9.out.trans (hb.mono HW9.out.size)
          replace HA := Lib.hid (HA.out.below hb)
          replace HB := Lib.hid (HB.out.below hb)
          replace HC := Lib.hid (HC.out.below hb)
          replace HDA := Lib.hid (HDA.out.below hb)
          have HK1 := Lib.hid hk
          clear hk
          clear hb
          go_wp2_with fail
          refine (KTk.out _ _ _ _ _ HK1.out HA.out).mono ?_
          rintro e w11 ⟨⟨⟨A3, c3, rfl, hk⟩, hh⟩, hb⟩
          have HW11 : Hid (Below w.heap.size w w11) := HW10.out.trans (hb.mono HW10.out.size)
          replace HA := Lib.hid (HA.out.below hb)
          replace HB := Lib.hid (HB.out.below hb)
          replace HC := Lib.hid (HC.out.below hb)
          replace HDA := Lib.hid (HDA.out.below hb)
          replace HK1 := Lib.hid (HK1.out.below hb)
          have HPA := Lib.hid hk
          have HHP1 := Lib.hid hh
          clear hk hh
          clear hb
          go_wp2_with fail
          refine (KOa.out _ _ _ HA.out).mono ?_
          rintro e w12 ⟨rfl, hb⟩
          have HW12 : Hid (Below w.heap.size w w12) := HW11.out.trans (hb.mono HW11.out.size)
          replace HA := Lib.hid (HA.out.below hb)
          replace HB := Lib.hid (HB.out.below hb)
          replace HC := Lib.hid (HC.out.below hb)
          replace HDA := Lib.hid (HDA.out.below hb)
          replace HK1 := Lib.hid (HK1.out.below hb)
          replace HPA := Lib.hid (HPA.out.below hb)
          clear hb
          go_wp2_with fail
          refine (KK2.out _).mono ?_
          rintro e w13 ⟨⟨A4, c4, rfl, hk⟩, hb⟩
          have HW13 : Hid (Below w.heap.size w w13) := HW12.out.trans (hb.mono HW12.out.size)
          replace HA := Lib.hid (HA.out.below hb)
          replace HB := Lib.hid (HB.out.below hb)
          replace HC := Lib.hid (HC.out.below hb)
          replace HDA := Lib.hid (HDA.out.below hb)
          replace HK1 := Lib.hid (HK1.out.below hb)
          replace HPA := Lib.hid (HPA.out.below hb)
          have HK2 := Lib.hid hk
          clear hk
          clear hb
          go_wp2_with fail
          refine (KTo.out _ _ _ _ _ HA.out HK2.out).mono ?_
          rintro e w14 ⟨⟨⟨A5, c5, rfl, hk⟩, hh⟩, hb⟩
          have HW14 : Hid (Below w.heap.size w w14) := HW13.out.trans (hb.mono HW13.out.size)
          replace HA := Lib.hid (HA.out.below hb)
          replace HB := Lib.hid (HB.out.below hb)
          replace HC := Lib.hid (HC.out.below hb)
          replace HDA := Lib.hid (HDA.out.below hb)
          replace HK1 := Lib.hid (HK1.out.below hb)
          replace HPA := Lib.hid (HPA.out.below hb)
          replace HK2 := Lib.hid (HK2.out.below hb)
          have HQA := Lib.hid hk
          have HHQ1 := Lib.hid hh
          clear hk hh
          clear hb
          go_wp2_with fail
          refine (kSame HEa.out _ _ _ _ _ HPA.out HA.out).mono ?_
          rintro e w15 ⟨rfl, hb⟩
          have HW15 : Hid (Below w.heap.size w w15) := HW14.out.trans (hb.mono HW14.out.size)
          replace HA := Lib.hid (HA.out.below hb)
          replace HB := Lib.hid (HB.out.below hb)
          replace HC := Lib.hid (HC.out.below hb)
          replace HDA := Lib.hid (HDA.out.below hb)
          replace HK1 := Lib.hid (HK1.out.below hb)
          replace HPA := Lib.hid (HPA.out.below hb)
          replace HK2 := Lib.hid (HK2.out.below hb)
          replace HQA := Lib.hid (HQA.out.below hb)
          clear hb
          go_wp2_with fail
          refine (kSame HEa.out _ _ _ _ _ HQA.out HA.out).mono ?_
          rintro e w16 ⟨rfl, hb⟩
          have HW16 : Hid (Below w.heap.size w w16) := HW15.out.trans (hb.mono HW15.out.size)
          replace HA := Lib.hid (HA.out.below hb)
          replace HB := Lib.hid (HB.out.below hb)
          replace HC := Lib.hid (HC.out.below hb)
          replace HDA := Lib.hid (HDA.out.below hb)
          replace HK1 := Lib.hid (HK1.out.below hb)
          replace HPA := Lib.hid (HPA.out.below hb)
          replace HK2 := Lib.hid (HK2.out.below hb)
          replace HQA := Lib.hid (HQA.out.below hb)
          clear hb
          go_wp2_with fail
          refine (KTb.out _ _ _ _ _ HB.out HC.out).mono ?_
          rintro e w17 ⟨⟨⟨A6, c6, rfl, hk⟩, hh⟩, hb⟩
          have HW17 : Hid (Below w.heap.size w w17) := HW16.out.trans (hb.mono HW16.out.size)
          replace HA := Lib.hid (HA.out.below hb)
          replace HB := Lib.hid (HB.out.below hb)
          replace HC := Lib.hid (HC.out.below hb)
          replace HDA := Lib.hid (HDA.out.below hb)
          replace HK1 := Lib.hid (HK1.out.below hb)
          replace HPA := Lib.hid (HPA.out.below hb)
          replace HK2 := Lib.hid (HK2.out.below hb)
          replace HQA := Lib.hid (HQA.out.below hb)
          have HFA := Lib.hid hk
          have HHF := Lib.hid hh
          clear hk hh
          clear hb
          go_wp2_with fail
          refine (GA.out _).mono ?_
          rintro e w18 ⟨rfl, hb⟩
          have HW18 : Hid (Below w.heap.size w w18) := HW17.out.trans (hb.mono HW17.out.size)
          replace HA := Lib.hid (HA.out.below hb)
          replace HB := Lib.hid (HB.out.below hb)
          replace HC := Lib.hid (HC.out.below hb)
          replace HDA := Lib.hid (HDA.out.below hb)
          replace HK1 := Lib.hid (HK1.out.below hb)
          replace HPA := Lib.hid (HPA.out.below hb)
          replace HK2 := Lib.hid (HK2.out.below hb)
          replace HQA := Lib.hid (HQA.out.below hb)
          replace HFA := Lib.hid (HFA.out.below hb)
          clear hb
          go_wp2
          go_ret
          exact ⟨rfl, HW18.out⟩
      · obtain ⟨dq, HDQ⟩ : ∃ q, Hid (rCheck D = q) := ⟨_, Lib.hid rfl⟩
        rw [HDQ.out] at hD
        have hdb : ((dq : Int) == 0) = false := beq_eq_false_iff_ne.2 (by omega)
        have hdb2 : ((dq : Int) != 0) = true := bne_iff_ne.2 (by omega)
        clear hD
        by_cases hj : j = 0
        · subst hj
          clear hbc
          go_enter Try.func4, Try.ntmps4
          go_wp2_with fail
          refine (GWa.out _ HA.out).mono ?_
          rintro e w1 ⟨rfl, hb⟩
          have HW1 : Hid (Below w.heap.size w w1) := HW0.out.trans (hb.mono HW0.out.size)
          replace HA := Lib.hid (HA.out.below hb)
          replace HB := Lib.hid (HB.out.below hb)
          replace HC := Lib.hid (HC.out.below hb)
          clear hb
          go_wp2_with fail
          refine (GWb.out _ HB.out).mono ?_
          rintro e w2 ⟨rfl, hb⟩
          have HW2 : Hid (Below w.heap.size w w2) := HW1.out.trans (hb.mono HW1.out.size)
          replace HA := Lib.hid (HA.out.below hb)
          replace HB := Lib.hid (HB.out.below hb)
          replace HC := Lib.hid (HC.out.below hb)
          clear hb
          go_wp2_with fail
          refine (GWc.out _ HC.out).mono ?_
          rintro e w3 ⟨rfl, hb⟩
          have HW3 : Hid (Below w.heap.size w w3) := HW2.out.trans (hb.mono HW2.out.size)
          replace HA := Lib.hid (HA.out.below hb)
          replace HB := Lib.hid (HB.out.below hb)
          replace HC := Lib.hid (HC.out.below hb)
          clear hb
          go_wp2_with fail
          refine (KD1.out _ _ _ HA.out).mono ?_
          rintro e w4 ⟨rfl, hb⟩
          have HW4 : Hid (Below w.heap.size w w4) := HW3.out.trans (hb.mono HW3.out.size)
          replace HA := Lib.hid (HA.out.below hb)
          replace HB := Lib.hid (HB.out.below hb)
          replace HC := Lib.hid (HC.out.below hb)
          clear hb
          go_wp2_with fail
          refine (KD2.out _ _ _ HB.out).mono ?_
          rintro e w5 ⟨rfl, hb⟩
          have HW5 : Hid (Below w.heap.size w w5) := HW4.out.trans (hb.mono HW4.out.size)
          replace HA := Lib.hid (HA.out.below hb)
          replace HB := Lib.hid (HB.out.below hb)
          replace HC := Lib.hid (HC.out.below hb)
          clear hb
          go_wp2_with fail
          refine (KT1.out _ _ _ _ _ HA.out HB.out).mono ?_
          rintro e w6 ⟨⟨⟨A1, c1, rfl, hk⟩, hh⟩, hb⟩
          have HW6 : Hid (Below w.heap.size w w6) := HW5.out.trans (hb.mono HW5.out.size)
          replace HA := Lib.hid (HA.out.below hb)
          replace HB := Lib.hid (HB.out.below hb)
          replace HC := Lib.hid (HC.out.below hb)
          have HDA := Lib.hid hk
          have HHD := Lib.hid hh
          clear hk hh
          clear hb
          go_wp2_with fail
          refine (kCheck HDQ.out HHD.out _ _ _ HDA.out).mono ?_
          rintro e w7 ⟨rfl, hb⟩
          have HW7 : Hid (Below w.heap.size w w7) := HW6.out.trans (hb.mono HW6.out.size)
          replace HA := Lib.hid (HA.out.below hb)
          replace HB := Lib.hid (HB.out.below hb)
          replace HC := Lib.hid (HC.out.below hb)
          replace HDA := Lib.hid (HDA.out.below hb)
          clear hb
          go_wp2_with fail
          refine (KBa.out _ _ _ HA.out).mono ?_
          rintro e w8 ⟨rfl, hb⟩
          have HW8 : Hid (Below w.heap.size w w8) := HW7.out.trans (hb.mono HW7.out.size)
          replace HA := Lib.hid (HA.out.below hb)
          replace HB := Lib.hid (HB.out.below hb)
          replace HC := Lib.hid (HC.out.below hb)
          replace HDA := Lib.hid (HDA.out.below hb)
          clear hb
          go_wp2_with fail
          refine (KK1.out _).mono ?_
          rintro e w9 ⟨⟨A2, c2, rfl, hk⟩, hb⟩
          have HW9 : Hid (Below w.heap.size w w9) := HW8.out.trans (hb.mono HW8.out.size)
          replace HA := Lib.hid (HA.out.below hb)
          replace HB := Lib.hid (HB.out.below hb)
          replace HC := Lib.hid (HC.out.below hb)
          replace HDA := Lib.hid (HDA.out.below hb)
          have HK1 := Lib.hid hk
          clear hk
          clear hb
          go_wp2_with fail
          refine (KTk.out _ _ _ _ _ HK1.out HA.out).mono ?_
          rintro e w10 ⟨⟨⟨A3, c3, rfl, hk⟩, hh⟩, hb⟩
          have HW10 : Hid (Below w.heap.size w w10) := HW9.out.trans (hb.mono HW9.out.size)
          replace HA := Lib.hid (HA.out.below hb)
          replace HB := Lib.hid (HB.out.below hb)
          replace HC := Lib.hid (HC.out.below hb)
          replace HDA := Lib.hid (HDA.out.below hb)
          replace HK1 := Lib.hid (HK1.out.below hb)
          have HPA := Lib.hid hk
          have HHP1 := Lib.hid hh
          clear hk hh
          clear hb
          go_wp2_with fail
          refine (KOa.out _ _ _ HA.out).mono ?_
          rintro e w11 ⟨rfl, hb⟩
          have HW11 : Hid (Below w.heap.size w w11) := HW10.out.trans (hb.mono HW10.out.size)
          replace HA := Lib.hid (HA.out.below hb)
          replace HB := Lib.hid (HB.out.below hb)
          replace HC := Lib.hid (HC.out.below hb)
          replace HDA := Lib.hid (HDA.out.below hb)
          replace HK1 := Lib.hid (HK1.out.below hb)
          replace HPA := Lib.hid (HPA.out.below hb)
          clear hb
          go_wp2_with fail
          refine (KK2.out _).mono ?_
          rintro e w12 ⟨⟨A4, c4, rfl, hk⟩, hb⟩
          have HW12 : Hid (Below w.heap.size w w12) := HW11.out.trans (hb.mono HW11.out.size)
          replace HA := Lib.hid (HA.out.below hb)
          replace HB := Lib.hid (HB.out.below hb)
          replace HC := Lib.hid (HC.out.below hb)
          replace HDA := Lib.hid (HDA.out.below hb)
          replace HK1 := Lib.hid (HK1.out.below hb)
          replace HPA := Lib.hid (HPA.out.below hb)
          have HK2 := Lib.hid hk
          clear hk
          clear hb
          go_wp2_with fail
          refine (KTo.out _ _ _ _ _ HA.out HK2.out).mono ?_
          rintro e w13 ⟨⟨⟨A5, c5, rfl, hk⟩, hh⟩, hb⟩
          have HW13 : Hid (Below w.heap.size w w13) := HW12.out.trans (hb.mono HW12.out.size)
          replace HA := Lib.hid (HA.out.below hb)
          replace HB := Lib.hid (HB.out.below hb)
          replace HC := Lib.hid (HC.out.below hb)
          replace HDA := Lib.hid (HDA.out.below hb)
          replace HK1 := Lib.hid (HK1.out.below hb)
          replace HPA := Lib.hid (HPA.out.below hb)
          replace HK2 := Lib.hid (HK2.out.below hb)
          have HQA := Lib.hid hk
          have HHQ1 := Lib.hid hh
          clear hk hh
          clear hb
          go_wp2_with fail
          refine (kSame HEa.out _ _ _ _ _ HPA.out HA.out).mono ?_
          rintro e w14 ⟨rfl, hb⟩
          have HW14 : Hid (Below w.heap.size w w14) := HW13.out.trans (hb.mono HW13.out.size)
          replace HA := Lib.hid (HA.out.below hb)
          replace HB := Lib.hid (HB.out.below hb)
          replace HC := Lib.hid (HC.out.below hb)
          replace HDA := Lib.hid (HDA.out.below hb)
          replace HK1 := Lib.hid (HK1.out.below hb)
          replace HPA := Lib.hid (HPA.out.below hb)
          replace HK2 := Lib.hid (HK2.out.below hb)
          replace HQA := Lib.hid (HQA.out.below hb)
          clear hb
          go_wp2_with fail
          refine (kSame HEa.out _ _ _ _ _ HQA.out HA.out).mono ?_
          rintro e w15 ⟨rfl, hb⟩
          have HW15 : Hid (Below w.heap.size w w15) := HW14.out.trans (hb.mono HW14.out.size)
          replace HA := Lib.hid (HA.out.below hb)
          replace HB := Lib.hid (HB.out.below hb)
          replace HC := Lib.hid (HC.out.below hb)
          replace HDA := Lib.hid (HDA.out.below hb)
          replace HK1 := Lib.hid (HK1.out.below hb)
          replace HPA := Lib.hid (HPA.out.below hb)
          replace HK2 := Lib.hid (HK2.out.below hb)
          replace HQA := Lib.hid (HQA.out.below hb)
          clear hb
          go_wp2_with fail
          refine (KTb.out _ _ _ _ _ HB.out HC.out).mono ?_
          rintro e w16 ⟨⟨⟨A6, c6, rfl, hk⟩, hh⟩, hb⟩
          have HW16 : Hid (Below w.heap.size w w16) := HW15.out.trans (hb.mono HW15.out.size)
          replace HA := Lib.hid (HA.out.below hb)
          replace HB := Lib.hid (HB.out.below hb)
          replace HC := Lib.hid (HC.out.below hb)
          replace HDA := Lib.hid (HDA.out.below hb)
          replace HK1 := Lib.hid (HK1.out.below hb)
          replace HPA := Lib.hid (HPA.out.below hb)
          replace HK2 := Lib.hid (HK2.out.below hb)
          replace HQA := Lib.hid (HQA.out.below hb)
          have HFA := Lib.hid hk
          have HHF := Lib.hid hh
          clear hk hh
          clear hb
          go_wp2_with fail
          refine (kCheck HDQ.out HHD.out _ _ _ HDA.out).mono ?_
          rintro e w17 ⟨rfl, hb⟩
          have HW17 : Hid (Below w.heap.size w w17) := HW16.out.trans (hb.mono HW16.out.size)
          replace HA := Lib.hid (HA.out.below hb)
          replace HB := Lib.hid (HB.out.below hb)
          replace HC := Lib.hid (HC.out.below hb)
          replace HDA := Lib.hid (HDA.out.below hb)
          replace HK1 := Lib.hid (HK1.out.below hb)
          replace HPA := Lib.hid (HPA.out.below hb)
          replace HK2 := Lib.hid (HK2.out.below hb)
          replace HQA := Lib.hid (HQA.out.below hb)
          replace HFA := Lib.hid (HFA.out.below hb)
          clear hb
          go_wp2_with fail
          refine (GA.out _).mono ?_
          rintro e w18 ⟨rfl, hb⟩
          have HW18 : Hid (Below w.heap.size w w18) := HW17.out.trans (hb.mono HW17.out.size)
          replace HA := Lib.hid (HA.out.below hb)
          replace HB := Lib.hid (HB.out.below hb)
          replace HC := Lib.hid (HC.out.below hb)
          replace HDA := Lib.hid (HDA.out.below hb)
          replace HK1 := Lib.hid (HK1.out.below hb)
          replace HPA := Lib.hid (HPA.out.below hb)
          replace HK2 := Lib.hid (HK2.out.below hb)
          replace HQA := Lib.hid (HQA.out.below hb)
          replace HFA := Lib.hid (HFA.out.below hb)
          clear hb
          go_wp2
          go_ret
          exact ⟨rfl, HW18.out⟩
        · have hjb : ((j : Int) != 0) = true := bne_iff_ne.2 (by omega)
          clear hj hbc
          go_enter Try.func4, Try.ntmps4
          go_wp2_with fail
          refine (GWa.out _ HA.out).mono ?_
          rintro e w1 ⟨rfl, hb⟩
          have HW1 : Hid (Below w.heap.size w w1) := HW0.out.trans (hb.mono HW0.out.size)
          replace HA := Lib.hid (HA.out.below hb)
          replace HB := Lib.hid (HB.out.below hb)
          replace HC := Lib.hid (HC.out.below hb)
          clear hb
          go_wp2_with fail
          refine (GWb.out _ HB.out).mono ?_
          rintro e w2 ⟨rfl, hb⟩
          have HW2 : Hid (Below w.heap.size w w2) := HW1.out.trans (hb.mono HW1.out.size)
          replace HA := Lib.hid (HA.out.below hb)
          replace HB := Lib.hid (HB.out.below hb)
          replace HC := Lib.hid (HC.out.below hb)
          clear hb
          go_wp2_with fail
          refine (GWc.out _ HC.out).mono ?_
          rintro e w3 ⟨rfl, hb⟩
          have HW3 : Hid (Below w.heap.size w w3) := HW2.out.trans (hb.mono HW2.out.size)
          replace HA := Lib.hid (HA.out.below hb)
          replace HB := Lib.hid (HB.out.below hb)
          replace HC := Lib.hid (HC.out.below hb)
          clear hb
          go_wp2_with fail
          refine (KD1.out _ _ _ HA.out).mono ?_
          rintro e w4 ⟨rfl, hb⟩
          have HW4 : Hid (Below w.heap.size w w4) := HW3.out.trans (hb.mono HW3.out.size)
          replace HA := Lib.hid (HA.out.below hb)
          replace HB := Lib.hid (HB.out.below hb)
          replace HC := Lib.hid (HC.out.below hb)
          clear hb
          go_wp2_with fail
          refine (KD2.out _ _ _ HB.out).mono ?_
          rintro e w5 ⟨rfl, hb⟩
          have HW5 : Hid (Below w.heap.size w w5) := HW4.out.trans (hb.mono HW4.out.size)
          replace HA := Lib.hid (HA.out.below hb)
          replace HB := Lib.hid (HB.out.below hb)
          replace HC := Lib.hid (HC.out.below hb)
          clear hb
          go_wp2_with fail
          refine (KT1.out _ _ _ _ _ HA.out HB.out).mono ?_
          rintro e w6 ⟨⟨⟨A1, c1, rfl, hk⟩, hh⟩, hb⟩
          have HW6 : Hid (Below w.heap.size w w6) := HW5.out.trans (hb.mono HW5.out.size)
          replace HA := Lib.hid (HA.out.below hb)
          replace HB := Lib.hid (HB.out.below hb)
          replace HC := Lib.hid (HC.out.below hb)
          have HDA := Lib.hid hk
          have HHD := Lib.hid hh
          clear hk hh
          clear hb
          go_wp2_with fail
          refine (kCheck HDQ.out HHD.out _ _ _ HDA.out).mono ?_
          rintro e w7 ⟨rfl, hb⟩
          have HW7 : Hid (Below w.heap.size w w7) := HW6.out.trans (hb.mono HW6.out.size)
          replace HA := Lib.hid (HA.out.below hb)
          replace HB := Lib.hid (HB.out.below hb)
          replace HC := Lib.hid (HC.out.below hb)
          replace HDA := Lib.hid (HDA.out.below hb)
          clear hb
          go_wp2_with fail
          refine (KBa.out _ _ _ HA.out).mono ?_
          rintro e w8 ⟨rfl, hb⟩
          have HW8 : Hid (Below w.heap.size w w8) := HW7.out.trans (hb.mono HW7.out.size)
          replace HA := Lib.hid (HA.out.below hb)
          replace HB := Lib.hid (HB.out.below hb)
          replace HC := Lib.hid (HC.out.below hb)
          replace HDA := Lib.hid (HDA.out.below hb)
          clear hb
          go_wp2_with fail
          refine (KK1.out _).mono ?_
          rintro e w9 ⟨⟨A2, c2, rfl, hk⟩, hb⟩
          have HW9 : Hid (Below w.heap.size w w9) := HW8.out.trans (hb.mono HW8.out.size)
          replace HA := Lib.hid (HA.out.below hb)
          replace HB := Lib.hid (HB.out.below hb)
          replace HC := Lib.hid (HC.out.below hb)
          replace HDA := Lib.hid (HDA.out.below hb)
          have HK1 := Lib.hid hk
          clear hk
          clear hb
          go_wp2_with fail
          refine (KTk.out _ _ _ _ _ HK1.out HA.out).mono ?_
          rintro e w10 ⟨⟨⟨A3, c3, rfl, hk⟩, hh⟩, hb⟩
          have HW10 : Hid (Below w.heap.size w w10) := HW9.out.trans (hb.mono HW9.out.size)
          replace HA := Lib.hid (HA.out.below hb)
          replace HB := Lib.hid (HB.out.below hb)
          replace HC := Lib.hid (HC.out.below hb)
          replace HDA := Lib.hid (HDA.out.below hb)
          replace HK1 := Lib.hid (HK1.out.below hb)
          have HPA := Lib.hid hk
          have HHP1 := Lib.hid hh
          clear hk hh
          clear hb
          go_wp2_with fail
          refine (KOa.out _ _ _ HA.out).mono ?_
          rintro e w11 ⟨rfl, hb⟩
          have HW11 : Hid (Below w.heap.size w w11) := HW10.out.trans (hb.mono HW10.out.size)
          replace HA := Lib.hid (HA.out.below hb)
          replace HB := Lib.hid (HB.out.below hb)
          replace HC := Lib.hid (HC.out.below hb)
          replace HDA := Lib.hid (HDA.out.below hb)
          replace HK1 := Lib.hid (HK1.out.below hb)
          replace HPA := Lib.hid (HPA.out.below hb)
          clear hb
          go_wp2_with fail
          refine (KK2.out _).mono ?_
          rintro e w12 ⟨⟨A4, c4, rfl, hk⟩, hb⟩
          have HW12 : Hid (Below w.heap.size w w12) := HW11.out.trans (hb.mono HW11.out.size)
          replace HA := Lib.hid (HA.out.below hb)
          replace HB := Lib.hid (HB.out.below hb)
          replace HC := Lib.hid (HC.out.below hb)
          replace HDA := Lib.hid (HDA.out.below hb)
          replace HK1 := Lib.hid (HK1.out.below hb)
          replace HPA := Lib.hid (HPA.out.below hb)
          have HK2 := Lib.hid hk
          clear hk
          clear hb
          go_wp2_with fail
          refine (KTo.out _ _ _ _ _ HA.out HK2.out).mono ?_
          rintro e w13 ⟨⟨⟨A5, c5, rfl, hk⟩, hh⟩, hb⟩
          have HW13 : Hid (Below w.heap.size w w13) := HW12.out.trans (hb.mono HW12.out.size)
          replace HA := Lib.hid (HA.out.below hb)
          replace HB := Lib.hid (HB.out.below hb)
          replace HC := Lib.hid (HC.out.below hb)
          replace HDA := Lib.hid (HDA.out.below hb)
          replace HK1 := Lib.hid (HK1.out.below hb)
          replace HPA := Lib.hid (HPA.out.below hb)
          replace HK2 := Lib.hid (HK2.out.below hb)
          have HQA := Lib.hid hk
          have HHQ1 := Lib.hid hh
          clear hk hh
          clear hb
          go_wp2_with fail
          refine (kSame HEa.out _ _ _ _ _ HPA.out HA.out).mono ?_
          rintro e w14 ⟨rfl, hb⟩
          have HW14 : Hid (Below w.heap.size w w14) := HW13.out.trans (hb.mono HW13.out.size)
          replace HA := Lib.hid (HA.out.below hb)
          replace HB := Lib.hid (HB.out.below hb)
          replace HC := Lib.hid (HC.out.below hb)
          replace HDA := Lib.hid (HDA.out.below hb)
          replace HK1 := Lib.hid (HK1.out.below hb)
          replace HPA := Lib.hid (HPA.out.below hb)
          replace HK2 := Lib.hid (HK2.out.below hb)
          replace HQA := Lib.hid (HQA.out.below hb)
          clear hb
          go_wp2_with fail
          refine (kSame HEa.out _ _ _ _ _ HQA.out HA.out).mono ?_
          rintro e w15 ⟨rfl, hb⟩
          have HW15 : Hid (Below w.heap.size w w15) := HW14.out.trans (hb.mono HW14.out.size)
          replace HA := Lib.hid (HA.out.below hb)
          replace HB := Lib.hid (HB.out.below hb)
          replace HC := Lib.hid (HC.out.below hb)
          replace HDA := Lib.hid (HDA.out.below hb)
          replace HK1 := Lib.hid (HK1.out.below hb)
          replace HPA := Lib.hid (HPA.out.below hb)
          replace HK2 := Lib.hid (HK2.out.below hb)
          replace HQA := Lib.hid (HQA.out.below hb)
          clear hb
          go_wp2_with fail
          refine (KTb.out _ _ _ _ _ HB.out HC.out).mono ?_
          rintro e w16 ⟨⟨⟨A6, c6, rfl, hk⟩, hh⟩, hb⟩
          have HW16 : Hid (Below w.heap.size w w16) := HW15.out.trans (hb.mono HW15.out.size)
          replace HA := Lib.hid (HA.out.below hb)
          replace HB := Lib.hid (HB.out.below hb)
          replace HC := Lib.hid (HC.out.below hb)
          replace HDA := Lib.hid (HDA.out.below hb)
          replace HK1 := Lib.hid (HK1.out.below hb)
          replace HPA := Lib.hid (HPA.out.below hb)
          replace HK2 := Lib.hid (HK2.out.below hb)
          replace HQA := Lib.hid (HQA.out.below hb)
          have HFA := Lib.hid hk
          have HHF := Lib.hid hh
          clear hk hh
          clear hb
          go_wp2_with fail
          refine (GA.out _).mono ?_
          rintro e w17 ⟨rfl, hb⟩
          have HW17 : Hid (Below w.heap.size w w17) := HW16.out.trans (hb.mono HW16.out.size)
          replace HA := Lib.hid (HA.out.below hb)
          replace HB := Lib.hid (HB.out.below hb)
          replace HC := Lib.hid (HC.out.below hb)
          replace HDA := Lib.hid (HDA.out.below hb)
          replace HK1 := Lib.hid (HK1.out.below hb)
          replace HPA := Lib.hid (HPA.out.below hb)
          replace HK2 := Lib.hid (HK2.out.below hb)
          replace HQA := Lib.hid (HQA.out.below hb)
          replace HFA := Lib.hid (HFA.out.below hb)
          clear hb
          go_wp2
          go_ret
          exact ⟨rfl, HW17.out⟩
    · have KD1 := Lib.hid (fun A c w h => kDo HX.out e1 HSB.out HSL.out HEa.out A c w h)
      obtain ⟨q, HQ⟩ : ∃ q, Hid (dErr X b = q) := ⟨_, Lib.hid rfl⟩
      have KD2 := Lib.hid (fun A c w h => kDo HY.out HQ.out HXS.out.1 (by have := HXS.out.2; omega) HEb.out A c w h)
      rw [HQ.out] at e2
      have hq : ((q : Int) != 0) = true := bne_iff_ne.2 (by omega)
      clear e1 e2
      go_enter Try.func4, Try.ntmps4
      go_wp2_with fail
      refine (GWa.out _ HA.out).mono ?_
      rintro e w1 ⟨rfl, hb⟩
      have HW1 : Hid (Below w.heap.size w w1) := HW0.out.trans (hb.mono HW0.out.size)
      replace HA := Lib.hid (HA.out.below hb)
      replace HB := Lib.hid (HB.out.below hb)
      replace HC := Lib.hid (HC.out.below hb)
      clear hb
      go_wp2_with fail
      refine (GWb.out _ HB.out).mono ?_
      rintro e w2 ⟨rfl, hb⟩
      have HW2 : Hid (Below w.heap.size w w2) := HW1.out.trans (hb.mono HW1.out.size)
      replace HA := Lib.hid (HA.out.below hb)
      replace HB := Lib.hid (HB.out.below hb)
      replace HC := Lib.hid (HC.out.below hb)
      clear hb
      go_wp2_with fail
      refine (GWc.out _ HC.out).mono ?_
      rintro e w3 ⟨rfl, hb⟩
      have HW3 : Hid (Below w.heap.size w w3) := HW2.out.trans (hb.mono HW2.out.size)
      replace HA := Lib.hid (HA.out.below hb)
      replace HB := Lib.hid (HB.out.below hb)
      replace HC := Lib.hid (HC.out.below hb)
      clear hb
      go_wp2_with fail
      refine (KD1.out _ _ _ HA.out).mono ?_
      rintro e w4 ⟨rfl, hb⟩
      have HW4 : Hid (Below w.heap.size w w4) := HW3.out.trans (hb.mono HW3.out.size)
      replace HA := Lib.hid (HA.out.below hb)
      replace HB := Lib.hid (HB.out.below hb)
      replace HC := Lib.hid (HC.out.below hb)
      clear hb
      go_wp2_with fail
      refine (KD2.out _ _ _ HB.out).mono ?_
      rintro e w5 ⟨rfl, hb⟩
      have HW5 : Hid (Below w.heap.size w w5) := HW4.out.trans (hb.mono HW4.out.size)
      replace HA := Lib.hid (HA.out.below hb)
      replace HB := Lib.hid (HB.out.below hb)
      replace HC := Lib.hid (HC.out.below hb)
      clear hb
      go_wp2_with fail
      refine (GA.out _).mono ?_
      rintro e w6 ⟨rfl, hb⟩
      have HW6 : Hid (Below w.heap.size w w6) := HW5.out.trans (hb.mono HW5.out.size)
      replace HA := Lib.hid (HA.out.below hb)
      replace HB := Lib.hid (HB.out.below hb)
      replace HC := Lib.hid (HC.out.below hb)
      clear hb
      go_wp2
      go_ret
      exact ⟨rfl, HW6.out⟩
  · obtain ⟨q, HQ⟩ : ∃ q, Hid (dErr s a = q) := ⟨_, Lib.hid rfl⟩
    have KD1 := Lib.hid (fun A c w h => kDo HX.out HQ.out HSB.out HSL.out HEa.out A c w h)
    have KD2 := Lib.hid (fun A c w h => kDo HY.out (rfl : dErr X b = dErr X b) HXS.out.1 (by have := HXS.out.2; omega) HEb.out A c w h)
    rw [HQ.out] at e1
    have hq : ((q : Int) != 0) = true := bne_iff_ne.2 (by omega)
    clear e1
    generalize dErr X b = r at KD2
    go_enter Try.func4, Try.ntmps4
    go_wp2_with fail
    refine (GWa.out _ HA.out).mono ?_
    rintro e w1 ⟨rfl, hb⟩
    have HW1 : Hid (Below w.heap.size w w1) := HW0.out.trans (hb.mono HW0.out.size)
    replace HA := Lib.hid (HA.out.below hb)
    replace HB := Lib.hid (HB.out.below hb)
    replace HC := Lib.hid (HC.out.below hb)
    clear hb
    go_wp2_with fail
    refine (GWb.out _ HB.out).mono ?_
    rintro e w2 ⟨rfl, hb⟩
    have HW2 : Hid (Below w.heap.size w w2) := HW1.out.trans (hb.mono HW1.out.size)
    replace HA := Lib.hid (HA.out.below hb)
    replace HB := Lib.hid (HB.out.below hb)
    replace HC := Lib.hid (HC.out.below hb)
    clear hb
    go_wp2_with fail
    refine (GWc.out _ HC.out).mono ?_
    rintro e w3 ⟨rfl, hb⟩
    have HW3 : Hid (Below w.heap.size w w3) := HW2.out.trans (hb.mono HW2.out.size)
    replace HA := Lib.hid (HA.out.below hb)
    replace HB := Lib.hid (HB.out.below hb)
    replace HC := Lib.hid (HC.out.below hb)
    clear hb
    go_wp2_with fail
    refine (KD1.out _ _ _ HA.out).mono ?_
    rintro e w4 ⟨rfl, hb⟩
    have HW4 : Hid (Below w.heap.size w w4) := HW3.out.trans (hb.mono HW3.out.size)
    replace HA := Lib.hid (HA.out.below hb)
    replace HB := Lib.hid (HB.out.below hb)
    replace HC := Lib.hid (HC.out.below hb)
    clear hb
    go_wp2_with fail
    refine (KD2.out _ _ _ HB.out).mono ?_
    rintro e w5 ⟨rfl, hb⟩
    have HW5 : Hid (Below w.heap.size w w5) := HW4.out.trans (hb.mono HW4.out.size)
    replace HA := Lib.hid (HA.out.below hb)
    replace HB := Lib.hid (HB.out.below hb)
    replace HC := Lib.hid (HC.out.below hb)
    clear hb
    go_wp2_with fail
    refine (GA.out _).mono ?_
    rintro e w6 ⟨rfl, hb⟩
    have HW6 : Hid (Below w.heap.size w w6) := HW5.out.trans (hb.mono HW5.out.size)
    replace HA := Lib.hid (HA.out.below hb)
    replace HB := Lib.hid (HB.out.below hb)
    replace HC := Lib.hid (HC.out.below hb)
    clear hb
    go_wp2
    go_ret
    exact ⟨rfl, HW6.out⟩
end Go.Proofs.Ytoicgmfcbmjchaa

/- ComposeDoes holds: one edit, then another one, do what both as one do; brackets do not matter; the one with nothing done ahead, or behind, is itself: whatever the law is called with: it answers true and changes nothing. No condition. -/
namespace Go.Proofs.Ytoicgmfcbmjchaa
open Go.ChangeShapes Go.WideShapes Go.ChangeAt Go.RowKit

set_option maxRecDepth 100000 in
theorem composeDoes_lifted (os : Os) (started : os.Started) (H : Type) (enc : TypeId × Value → H) :
    ReturnsInHanded {} Try.checked os 4 .any (Rows.composeDoesSpec.pre6 enc Try.prog Try.f4 Rows.composeDoesRow.domain false) (Rows.composeDoesSpec.post enc Try.prog Try.f4 false true false false) := by
  refine returnsInHanded_of_change (C := Try.checked) law_own started (by kernel_rfl) Try.func4
    (ChangeSpec.witness6 (enc := enc) (C := Try.checked) false ⟨#[], #[.string { data := #[] }, .slice none 0 0, .slice none 0 0, .slice none 0 0], []⟩ 8 (by kernel_rfl) (by kernel_rfl) (by kernel_rfl) (by kernel_rfl)) ?_
  intro W base args ds gs before hval0 hW _ _
  have hval : ∀ (j : Nat) t v, Try.f4.params[j]? = some t → args[j]? = some v → Value.okWide Try.prog W .any base t v := hval0
  have hW' := hW
  obtain ⟨p, q, hA0, hV, rfl, _, _⟩ := hW
  have hlt : ∀ x ∈ p ++ q, x.block < W.heap.size := fun x hx => hW'.lt x hx
  have hA : DataW.TrodAll enc Try.prog W 0 (fun _ => true) true Try.f4.params.toList args.toList ds p := hA0
  rw [Try.params4] at hA hval
  obtain ⟨v0, v1, v2, v3, d0, d1, d2, d3, p0, p1, p2, p3, rfl, rfl, rfl, h0, h1, h2, h3⟩ := trodAll_four hA
  obtain ⟨rfl, rfl⟩ := trodVars_none hV
  obtain ⟨s0, rfl, rfl, rfl, hsz0⟩ := Go.ChangeMaps.open_string Try.underlying9 (hval 0 9 v0 rfl rfl) h0
  obtain ⟨t0, hb0, rfl⟩ := bstr_any s0
  have hl0 : t0.length ≤ maxLen := by rw [bstr_size] at hsz0; exact hsz0
  obtain ⟨A1, l1, c1, rfl, hat1, hg1, hlc1, hc1⟩ := open_comps (hval 1 22 v1 rfl rfl) h1 (fun x hx => hlt x (by simp [hx]))
  have hl1 : l1.length ≤ maxLen := by omega
  obtain ⟨A2, l2, c2, rfl, hat2, hg2, hlc2, hc2⟩ := open_comps (hval 2 22 v2 rfl rfl) h2 (fun x hx => hlt x (by simp [hx]))
  have hl2 : l2.length ≤ maxLen := by omega
  obtain ⟨A3, l3, c3, rfl, hat3, hg3, hlc3, hc3⟩ := open_comps (hval 3 22 v3 rfl rfl) h3 (fun x hx => hlt x (by simp [hx]))
  have hl3 : l3.length ≤ maxLen := by omega
  clear hA0 hval0
  refine (composeDoes_any t0 A1 l1 c1 A2 l2 c2 A3 l3 c3 hb0 hl0 hl1 hg1 hl2 hg2 hl3 hg3 W ⟨hat1, hlc1⟩ ⟨hat2, hlc2⟩ ⟨hat3, hlc3⟩).mono fun e W' ⟨he, hb⟩ => ?_
  exact ⟨_, he, law_post law_laid (by kernel_rfl) (by kernel_rfl) Try.underlying4 rfl hW' rfl hb⟩

theorem composeDoes_holds : Rows.ComposeDoesSaid :=
  OpenClaim.holds_of_wide 4 Try.f4 rfl rfl rfl rfl rfl rfl rfl ⟨rfl, rfl, rfl, rfl, rfl⟩ rfl rfl rfl rfl rfl (by kernel_rfl) Try.func4 (by kernel_rfl)
    (of_decide_eq_true (by kernel_rfl)) (by unfold Func.isWrapper; first | (rw [if_pos (by decide +kernel)]; kernel_rfl) | (rw [if_neg (by decide +kernel)]; exact ⟨rfl, rfl⟩))
    (fun os started H enc _ => composeDoes_lifted os started H enc)
end Go.Proofs.Ytoicgmfcbmjchaa
