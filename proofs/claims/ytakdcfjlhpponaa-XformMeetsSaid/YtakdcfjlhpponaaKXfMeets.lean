/- One edit, then the other one behind it, in either order, make one text: it answers true and changes nothing. No condition. (Merged of 2 texts.) -/
import Derived.Test.YtakdcfjlhpponaaKXk
import Derived.ChangeMaps5
/- XformMeets, walked: one edit, then the other one behind it, in either order, make one text. Condition: what memory may hold. -/
namespace Go.Proofs.Ytakdcfjlhpponaa
open Go.RowKit Go.Deep

set_option maxHeartbeats 8000000 in
set_option maxRecDepth 100000 in
theorem xformMeets_any (s : List Nat) (A : Option Addr) (a : List CompV) (ca : Nat) (B : Option Addr) (b : List CompV) (cb : Nat) (f : Bool) (hsb : ∀ x ∈ s, x < 256) (hsl : s.length ≤ maxLen) (hla : a.length ≤ maxLen) (hga : ∀ y ∈ a, y.Good) (hlb : b.length ≤ maxLen) (hgb : ∀ y ∈ b, y.Good) (w : World) (hA : CompsC w A ca a) (hB : CompsC w B cb b) :
    Calls Try.prog 4 #[.string (bstr s), .slice A a.length ca, .slice B b.length cb, .bool f] w fun e w' => e = .returned (.bool true) ∧ Below w.heap.size w w' := by
  have hsz := bstr_size s
  unfold maxLen at hsl
  have GA := Lib.hid (fun w => xfAwake_any w)
  have GWa := Lib.hid (fun w h => alikeComps_c 1000 ca hla hga w (A := A) h)
  have GWb := Lib.hid (fun w h => alikeComps_c 1000 cb hlb hgb w (A := B) h)
  have HA := Lib.hid hA
  have HB := Lib.hid hB
  clear hA hB hla hlb
  obtain ⟨Ta, HTa⟩ : ∃ x, Hid (compsWeight 1000 a = x) := ⟨_, rfl⟩
  obtain ⟨Tb, HTb⟩ : ∃ x, Hid (compsWeight 1000 b = x) := ⟨_, rfl⟩
  rw [HTa.out] at GWa
  rw [HTb.out] at GWb
  have HW0 := Lib.hid (Below.refl w.heap.size w)
  by_cases g0 : 500 < s.length
  · clear hga hgb hsb
    go_enter Try.func4, Try.ntmps4
    go_wp2_with fail
    refine (GA.out _).mono ?_
    rintro e w1 ⟨rfl, hb⟩
    have HW1 : Hid (Below w.heap.size w w1) := HW0.out.trans (hb.mono HW0.out.size)
    replace HA := Lib.hid (HA.out.below hb)
    replace HB := Lib.hid (HB.out.below hb)
    clear hb
    go_wp2
    go_ret
    exact ⟨rfl, HW1.out⟩
  have HSB := Lib.hid hsb
  clear hsb
  by_cases g1 : 1000 < Ta
  · clear hga hgb
    go_enter Try.func4, Try.ntmps4
    go_wp2_with fail
    refine (GWa.out _ HA.out).mono ?_
    rintro e w1 ⟨rfl, hb⟩
    have HW1 : Hid (Below w.heap.size w w1) := HW0.out.trans (hb.mono HW0.out.size)
    replace HA := Lib.hid (HA.out.below hb)
    replace HB := Lib.hid (HB.out.below hb)
    clear hb
    go_wp2_with fail
    refine (GA.out _).mono ?_
    rintro e w2 ⟨rfl, hb⟩
    have HW2 : Hid (Below w.heap.size w w2) := HW1.out.trans (hb.mono HW1.out.size)
    replace HA := Lib.hid (HA.out.below hb)
    replace HB := Lib.hid (HB.out.below hb)
    clear hb
    go_wp2
    go_ret
    exact ⟨rfl, HW2.out⟩
  by_cases g2 : 1000 < Tb
  · clear hga hgb
    go_enter Try.func4, Try.ntmps4
    go_wp2_with fail
    refine (GWa.out _ HA.out).mono ?_
    rintro e w1 ⟨rfl, hb⟩
    have HW1 : Hid (Below w.heap.size w w1) := HW0.out.trans (hb.mono HW0.out.size)
    replace HA := Lib.hid (HA.out.below hb)
    replace HB := Lib.hid (HB.out.below hb)
    clear hb
    go_wp2_with fail
    refine (GWb.out _ HB.out).mono ?_
    rintro e w2 ⟨rfl, hb⟩
    have HW2 : Hid (Below w.heap.size w w2) := HW1.out.trans (hb.mono HW1.out.size)
    replace HA := Lib.hid (HA.out.below hb)
    replace HB := Lib.hid (HB.out.below hb)
    clear hb
    go_wp2_with fail
    refine (GA.out _).mono ?_
    rintro e w3 ⟨rfl, hb⟩
    have HW3 : Hid (Below w.heap.size w w3) := HW2.out.trans (hb.mono HW2.out.size)
    replace HA := Lib.hid (HA.out.below hb)
    replace HB := Lib.hid (HB.out.below hb)
    clear hb
    go_wp2
    go_ret
    exact ⟨rfl, HW3.out⟩
  have HEa := Lib.hid (held_of hga (weight_spec 1000 (by omega) a (by rw [HTa.out]; omega)) (by omega))
  have HEb := Lib.hid (held_of hgb (weight_spec 1000 (by omega) b (by rw [HTb.out]; omega)) (by omega))
  clear hga hgb
  have HSL : Hid (s.length ≤ 1073741824) := by show _ ≤ _; omega
  obtain ⟨X, HX⟩ : ∃ X, Hid (dTxt s a = X) := ⟨_, Lib.hid rfl⟩
  have HXS := Lib.hid (dTxt_small s a)
  rw [HX.out] at HXS
  obtain ⟨Y, HY⟩ : ∃ Y, Hid (dTxt s b = Y) := ⟨_, Lib.hid rfl⟩
  have HYS := Lib.hid (dTxt_small s b)
  rw [HY.out] at HYS
  by_cases e1 : dErr s a = 0
  · by_cases e2 : dErr s b = 0
    · have KD1 := Lib.hid (fun A c w h => kDo HX.out e1 HSB.out HSL.out HEa.out A c w h)
      have KD2 := Lib.hid (fun A c w h => kDo HY.out e2 HSB.out HSL.out HEb.out A c w h)
      obtain ⟨za, vs, hv, hna⟩ := dErr_zero e1
      obtain ⟨zb, vs', hv', hnb⟩ := dErr_zero e2
      obtain rfl := hv.uniq hv'
      have oka := ok_of za
      have okb := ok_of zb
      have hxe := dTxt_ed za hv hna
      have hye := dTxt_ed zb hv hnb
      rw [HX.out] at hxe
      rw [HY.out] at hye
      have hba := oka.base
      have hbb := okb.base
      have hab : inS a = inS b := by omega
      have hla2 := ed_length a vs oka.wh (by omega)
      have hlb2 := ed_length b vs okb.wh (by omega)
      have hVX : V X (ed a vs) := by rw [hxe]; exact V.mk (ed_may a vs oka.wh hv.may)
      have hVY : V Y (ed b vs) := by rw [hye]; exact V.mk (ed_may b vs okb.wh hv.may)
      obtain ⟨P, hP⟩ := over_is f oka okb hab
      obtain ⟨Q, hQ⟩ := over_is (!f) okb oka hab.symm
      have HMT := Lib.hid (hP.meets hQ oka okb hab vs (by omega))
      have KP := Lib.hid (fun A ca B cb w h1 h2 => kOver hP.over HEa.out HEb.out A ca B cb w h1 h2)
      have KQ := Lib.hid (fun A ca B cb w h1 h2 => kOver hQ.over HEb.out HEa.out A ca B cb w h1 h2)
      have HPI : Hid ((ed b vs).length = inS P) := by show _ = _; rw [hP.ins, hlb2]
      have HQI : Hid ((ed a vs).length = inS Q) := by show _ = _; rw [hQ.ins, hla2]
      have HVX := Lib.hid hVX
      have HVY := Lib.hid hVY
      have KN := Lib.hid (fun w => refCount_yes HVY.out (by have := HYS.out.2; omega) w)
      clear e1 e2 za zb hv hna hv' hnb oka okb hxe hye hba hbb hab hla2 hlb2 hVX hVY hP hQ
      by_cases cp : rCheck P = 0
      · by_cases cq : rCheck Q = 0
        · have hpb := (ok_of cp).base
          have dp := does_ok (ok_of cp) HVY.out HPI.out
          have dq := does_ok (ok_of cq) HVX.out HQI.out
          rw [← HMT.out] at dq
          have HCP := Lib.hid cp
          have HCQ := Lib.hid cq
          have HDP := Lib.hid dp
          have HDQ := Lib.hid dq
          rw [← HPI.out] at hpb
          have HPB := Lib.hid hpb
          clear cp cq dp dq hpb
          generalize (ed b vs).length = n at KN HPB
          generalize E (ed P (ed b vs)) = Z at HDP HDQ
          go_enter Try.func4, Try.ntmps4
          go_wp2_with fail
          refine (GWa.out _ HA.out).mono ?_
          rintro e w1 ⟨rfl, hb⟩
          have HW1 : Hid (Below w.heap.size w w1) := HW0.out.trans (hb.mono HW0.out.size)
          replace HA := Lib.hid (HA.out.below hb)
          replace HB := Lib.hid (HB.out.below hb)
          clear hb
          go_wp2_with fail
          refine (GWb.out _ HB.out).mono ?_
          rintro e w2 ⟨rfl, hb⟩
          have HW2 : Hid (Below w.heap.size w w2) := HW1.out.trans (hb.mono HW1.out.size)
          replace HA := Lib.hid (HA.out.below hb)
          replace HB := Lib.hid (HB.out.below hb)
          clear hb
          go_wp2_with fail
          refine (KD1.out _ _ _ HA.out).mono ?_
          rintro e w3 ⟨rfl, hb⟩
          have HW3 : Hid (Below w.heap.size w w3) := HW2.out.trans (hb.mono HW2.out.size)
          replace HA := Lib.hid (HA.out.below hb)
          replace HB := Lib.hid (HB.out.below hb)
          clear hb
          go_wp2_with fail
          refine (KD2.out _ _ _ HB.out).mono ?_
          rintro e w4 ⟨rfl, hb⟩
          have HW4 : Hid (Below w.heap.size w w4) := HW3.out.trans (hb.mono HW3.out.size)
          replace HA := Lib.hid (HA.out.below hb)
          replace HB := Lib.hid (HB.out.below hb)
          clear hb
          go_wp2_with fail
          refine (KP.out _ _ _ _ _ HA.out HB.out).mono ?_
          rintro e w5 ⟨⟨⟨A1, c1, rfl, hk⟩, hh⟩, hb⟩
          have HW5 : Hid (Below w.heap.size w w5) := HW4.out.trans (hb.mono HW4.out.size)
          replace HA := Lib.hid (HA.out.below hb)
          replace HB := Lib.hid (HB.out.below hb)
          have HPA := Lib.hid hk
          have HHP := Lib.hid hh
          clear hk hh
          clear hb
          go_wp2_with fail
          refine (KQ.out _ _ _ _ _ HB.out HA.out).mono ?_
          rintro e w6 ⟨⟨⟨A2, c2, rfl, hk⟩, hh⟩, hb⟩
          have HW6 : Hid (Below w.heap.size w w6) := HW5.out.trans (hb.mono HW5.out.size)
          replace HA := Lib.hid (HA.out.below hb)
          replace HB := Lib.hid (HB.out.below hb)
          replace HPA := Lib.hid (HPA.out.below hb)
          have HQA := Lib.hid hk
          have HHQ := Lib.hid hh
          clear hk hh
          clear hb
          go_wp2_with fail
          refine (kCheck HCP.out HHP.out _ _ _ HPA.out).mono ?_
          rintro e w7 ⟨rfl, hb⟩
          have HW7 : Hid (Below w.heap.size w w7) := HW6.out.trans (hb.mono HW6.out.size)
          replace HA := Lib.hid (HA.out.below hb)
          replace HB := Lib.hid (HB.out.below hb)
          replace HPA := Lib.hid (HPA.out.below hb)
          replace HQA := Lib.hid (HQA.out.below hb)
          clear hb
          go_wp2_with fail
          refine (kCheck HCQ.out HHQ.out _ _ _ HQA.out).mono ?_
          rintro e w8 ⟨rfl, hb⟩
          have HW8 : Hid (Below w.heap.size w w8) := HW7.out.trans (hb.mono HW7.out.size)
          replace HA := Lib.hid (HA.out.below hb)
          replace HB := Lib.hid (HB.out.below hb)
          replace HPA := Lib.hid (HPA.out.below hb)
          replace HQA := Lib.hid (HQA.out.below hb)
          clear hb
          go_wp2_with fail
          refine (kDo HDP.out.2 HDP.out.1 HYS.out.1 (by have := HYS.out.2; omega) HHP.out _ _ _ HPA.out).mono ?_
          rintro e w9 ⟨rfl, hb⟩
          have HW9 : Hid (Below w.heap.size w w9) := HW8.out.trans (hb.mono HW8.out.size)
          replace HA := Lib.hid (HA.out.below hb)
          replace HB := Lib.hid (HB.out.below hb)
          replace HPA := Lib.hid (HPA.out.below hb)
          replace HQA := Lib.hid (HQA.out.below hb)
          clear hb
          go_wp2_with fail
          refine (kDo HDQ.out.2 HDQ.out.1 HXS.out.1 (by have := HXS.out.2; omega) HHQ.out _ _ _ HQA.out).mono ?_
          rintro e w10 ⟨rfl, hb⟩
          have HW10 : Hid (Below w.heap.size w w10) := HW9.out.trans (hb.mono HW9.out.size)
          replace HA := Lib.hid (HA.out.below hb)
          replace HB := Lib.hid (HB.out.below hb)
          replace HPA := Lib.hid (HPA.out.below hb)
          replace HQA := Lib.hid (HQA.out.below hb)
          clear hb
          go_wp2_with fail
          refine (kBase HPB.out HHP.out _ _ _ HPA.out).mono ?_
          rintro e w11 ⟨rfl, hb⟩
          have HW11 : Hid (Below w.heap.size w w11) := HW10.out.trans (hb.mono HW10.out.size)
          replace HA := Lib.hid (HA.out.below hb)
          replace HB := Lib.hid (HB.out.below hb)
          replace HPA := Lib.hid (HPA.out.below hb)
          replace HQA := Lib.hid (HQA.out.below hb)
          clear hb
          go_wp2_with fail
          refine (KN.out _).mono ?_
          rintro e w12 ⟨rfl, hb⟩
          have HW12 : Hid (Below w.heap.size w w12) := HW11.out.trans (hb.mono HW11.out.size)
          replace HA := Lib.hid (HA.out.below hb)
          replace HB := Lib.hid (HB.out.below hb)
          replace HPA := Lib.hid (HPA.out.below hb)
          replace HQA := Lib.hid (HQA.out.below hb)
          clear hb
          go_wp2_with fail
          refine (GA.out _).mono ?_
          rintro e w13 ⟨rfl, hb⟩
          have HW13 : Hid (Below w.heap.size w w13) := HW12.out.trans (hb.mono HW12.out.size)
          replace HA := Lib.hid (HA.out.below hb)
          replace HB := Lib.hid (HB.out.below hb)
          replace HPA := Lib.hid (HPA.out.below hb)
          replace HQA := Lib.hid (HQA.out.below hb)
          clear hb
          go_wp2
          go_ret
          exact ⟨rfl, HW13.out⟩
        · obtain ⟨q, HQC⟩ : ∃ q, Hid (rCheck Q = q) := ⟨_, Lib.hid rfl⟩
          rw [HQC.out] at cq
          have hq : ((q : Int) != 0) = true := bne_iff_ne.2 (by omega)
          have HCP := Lib.hid cp
          clear cp cq
          go_enter Try.func4, Try.ntmps4
          go_wp2_with fail
          refine (GWa.out _ HA.out).mono ?_
          rintro e w1 ⟨rfl, hb⟩
          have HW1 : Hid (Below w.heap.size w w1) := HW0.out.trans (hb.mono HW0.out.size)
          replace HA := Lib.hid (HA.out.below hb)
          replace HB := Lib.hid (HB.out.below hb)
          clear hb
          go_wp2_with fail
          refine (GWb.out _ HB.out).mono ?_
          rintro e w2 ⟨rfl, hb⟩
          have HW2 : Hid (Below w.heap.size w w2) := HW1.out.trans (hb.mono HW1.out.size)
          replace HA := Lib.hid (HA.out.below hb)
          replace HB := Lib.hid (HB.out.below hb)
          clear hb
          go_wp2_with fail
          refine (KD1.out _ _ _ HA.out).mono ?_
          rintro e w3 ⟨rfl, hb⟩
          have HW3 : Hid (Below w.heap.size w w3) := HW2.out.trans (hb.mono HW2.out.size)
          replace HA := Lib.hid (HA.out.below hb)
          replace HB := Lib.hid (HB.out.below hb)
          clear hb
          go_wp2_with fail
          refine (KD2.out _ _ _ HB.out).mono ?_
          rintro e w4 ⟨rfl, hb⟩
          have HW4 : Hid (Below w.heap.size w w4) := HW3.out.trans (hb.mono HW3.out.size)
          replace HA := Lib.hid (HA.out.below hb)
          replace HB := Lib.hid (HB.out.below hb)
          clear hb
          go_wp2_with fail
          refine (KP.out _ _ _ _ _ HA.out HB.out).mono ?_
          rintro e w5 ⟨⟨⟨A1, c1, rfl, hk⟩, hh⟩, hb⟩
          have HW5 : Hid (Below w.heap.size w w5) := HW4.out.trans (hb.mono HW4.out.size)
          replace HA := Lib.hid (HA.out.below hb)
          replace HB := Lib.hid (HB.out.below hb)
          have HPA := Lib.hid hk
          have HHP := Lib.hid hh
          clear hk hh
          clear hb
          go_wp2_with fail
          refine (KQ.out _ _ _ _ _ HB.out HA.out).mono ?_
          rintro e w6 ⟨⟨⟨A2, c2, rfl, hk⟩, hh⟩, hb⟩
          have HW6 : Hid (Below w.heap.size w w6) := HW5.out.trans (hb.mono HW5.out.size)
          replace HA := Lib.hid (HA.out.below hb)
          replace HB := Lib.hid (HB.out.below hb)
          replace HPA := Lib.hid (HPA.out.below hb)
          have HQA := Lib.hid hk
          have HHQ := Lib.hid hh
          clear hk hh
          clear hb
          go_wp2_with fail
          refine (kCheck HCP.out HHP.out _ _ _ HPA.out).mono ?_
          rintro e w7 ⟨rfl, hb⟩
          have HW7 : Hid (Below w.heap.size w w7) := HW6.out.trans (hb.mono HW6.out.size)
          replace HA := Lib.hid (HA.out.below hb)
          replace HB := Lib.hid (HB.out.below hb)
          replace HPA := Lib.hid (HPA.out.below hb)
          replace HQA := Lib.hid (HQA.out.below hb)
          clear hb
          go_wp2_with fail
          refine (kCheck HQC.out HHQ.out _ _ _ HQA.out).mono ?_
          rintro e w8 ⟨rfl, hb⟩
          have HW8 : Hid (Below w.heap.size w w8) := HW7.out.trans (hb.mono HW7.out.size)
          replace HA := Lib.hid (HA.out.below hb)
          replace HB := Lib.hid (HB.out.below hb)
          replace HPA := Lib.hid (HPA.out.below hb)
          replace HQA := Lib.hid (HQA.out.below hb)
          clear hb
          go_wp2_with fail
          refine (GA.out _).mono ?_
          rintro e w9 ⟨rfl, hb⟩
          have HW9 : Hid (Below w.heap.size w w9) := HW8.out.trans (hb.mono HW8.out.size)
          replace HA := Lib.hid (HA.out.below hb)
          replace HB := Lib.hid (HB.out.below hb)
          replace HPA := Lib.hid (HPA.out.below hb)
          replace HQA := Lib.hid (HQA.out.below hb)
          clear hb
          go_wp2
          go_ret
          exact ⟨rfl, HW9.out⟩
      · obtain ⟨q, HQC⟩ : ∃ q, Hid (rCheck P = q) := ⟨_, Lib.hid rfl⟩
        rw [HQC.out] at cp
        have hq : ((q : Int) != 0) = true := bne_iff_ne.2 (by omega)
        clear cp
        go_enter Try.func4, Try.ntmps4
        go_wp2_with fail
        refine (GWa.out _ HA.out).mono ?_
        rintro e w1 ⟨rfl, hb⟩
        have HW1 : Hid (Below w.heap.size w w1) := HW0.out.trans (hb.mono HW0.out.size)
        replace HA := Lib.hid (HA.out.below hb)
        replace HB := Lib.hid (HB.out.below hb)
        clear hb
        go_wp2_with fail
        refine (GWb.out _ HB.out).mono ?_
        rintro e w2 ⟨rfl, hb⟩
        have HW2 : Hid (Below w.heap.size w w2) := HW1.out.trans (hb.mono HW1.out.size)
        replace HA := Lib.hid (HA.out.below hb)
        replace HB := Lib.hid (HB.out.below hb)
        clear hb
        go_wp2_with fail
        refine (KD1.out _ _ _ HA.out).mono ?_
        rintro e w3 ⟨rfl, hb⟩
        have HW3 : Hid (Below w.heap.size w w3) := HW2.out.trans (hb.mono HW2.out.size)
        replace HA := Lib.hid (HA.out.below hb)
        replace HB := Lib.hid (HB.out.below hb)
        clear hb
        go_wp2_with fail
        refine (KD2.out _ _ _ HB.out).mono ?_
        rintro e w4 ⟨rfl, hb⟩
        have HW4 : Hid (Below w.heap.size w w4) := HW3.out.trans (hb.mono HW3.out.size)
        replace HA := Lib.hid (HA.out.below hb)
        replace HB := Lib.hid (HB.out.below hb)
        clear hb
        go_wp2_with fail
        refine (KP.out _ _ _ _ _ HA.out HB.out).mono ?_
        rintro e w5 ⟨⟨⟨A1, c1, rfl, hk⟩, hh⟩, hb⟩
        have HW5 : Hid (Below w.heap.size w w5) := HW4.out.trans (hb.mono HW4.out.size)
        replace HA := Lib.hid (HA.out.below hb)
        replace HB := Lib.hid (HB.out.below hb)
        have HPA := Lib.hid hk
        have HHP := Lib.hid hh
        clear hk hh
        clear hb
        go_wp2_with fail
        refine (KQ.out _ _ _ _ _ HB.out HA.out).mono ?_
        rintro e w6 ⟨⟨⟨A2, c2, rfl, hk⟩, hh⟩, hb⟩
        have HW6 : Hid (Below w.heap.size w w6) := HW5.out.trans (hb.mono HW5.out.size)
        replace HA := Lib.hid (HA.out.below hb)
        replace HB := Lib.hid (HB.out.below hb)
        replace HPA := Lib.hid (HPA.out.below hb)
        have HQA := Lib.hid hk
        have HHQ := Lib.hid hh
        clear hk hh
        clear hb
        go_wp2_with fail
        refine (kCheck HQC.out HHP.out _ _ _ HPA.out).mono ?_
        rintro e w7 ⟨rfl, hb⟩
        have HW7 : Hid (Below w.heap.size w w7) := HW6.out.trans (hb.mono HW6.out.size)
        replace HA := Lib.hid (HA.out.below hb)
        replace HB := Lib.hid (HB.out.below hb)
        replace HPA := Lib.hid (HPA.out.below hb)
        replace HQA := Lib.hid (HQA.out.below hb)
        clear hb
        go_wp2_with fail
        refine (GA.out _).mono ?_
        rintro e w8 ⟨rfl, hb⟩
        have HW8 : Hid (Below w.heap.size w w8) := HW7.out.trans (hb.mono HW7.out.size)
        replace HA := Lib.hid (HA.out.below hb)
        replace HB := Lib.hid (HB.out.below hb)
        replace HPA := Lib.hid (HPA.out.below hb)
        replace HQA := Lib.hid (HQA.out.below hb)
        clear hb
        go_wp2
        go_ret
        exact ⟨rfl, HW8.out⟩
    · have KD1 := Lib.hid (fun A c w h => kDo HX.out e1 HSB.out HSL.out HEa.out A c w h)
      obtain ⟨q, HQ⟩ : ∃ q, Hid (dErr s b = q) := ⟨_, Lib.hid rfl⟩
      have KD2 := Lib.hid (fun A c w h => kDo HY.out HQ.out HSB.out HSL.out HEb.out A c w h)
      rw [HQ.out] at e2
      have hq : ((q : Int) != 0) = true := bne_iff_ne.2 (by omega)
      clear e1 e2
      go_enter Try.func4, Try.ntmps4
      go_wp2_with fail
      refine (GWa.out _ HA.out).mono ?_
      rintro e w1 ⟨rfl, hb⟩
      have HW1 : Hid (Below w.heap.size w w1) := HW0.out.trans (hb.mono HW0.out.size)
      replace HA := Lib.hid (HA.out.below hb)
      replace HB := Lib.hid (HB.out.below hb)
      clear hb
      go_wp2_with fail
      refine (GWb.out _ HB.out).mono ?_
      rintro e w2 ⟨rfl, hb⟩
      have HW2 : Hid (Below w.heap.size w w2) := HW1.out.trans (hb.mono HW1.out.size)
      replace HA := Lib.hid (HA.out.below hb)
      replace HB := Lib.hid (HB.out.below hb)
      clear hb
      go_wp2_with fail
      refine (KD1.out _ _ _ HA.out).mono ?_
      rintro e w3 ⟨rfl, hb⟩
      have HW3 : Hid (Below w.heap.size w w3) := HW2.out.trans (hb.mono HW2.out.size)
      replace HA := Lib.hid (HA.out.below hb)
      replace HB := Lib.hid (HB.out.below hb)
      clear hb
      go_wp2_with fail
      refine (KD2.out _ _ _ HB.out).mono ?_
      rintro e w4 ⟨rfl, hb⟩
      have HW4 : Hid (Below w.heap.size w w4) := HW3.out.trans (hb.mono HW3.out.size)
      replace HA := Lib.hid (HA.out.below hb)
      replace HB := Lib.hid (HB.out.below hb)
      clear hb
      go_wp2_with fail
      refine (GA.out _).mono ?_
      rintro e w5 ⟨rfl, hb⟩
      have HW5 : Hid (Below w.heap.size w w5) := HW4.out.trans (hb.mono HW4.out.size)
      replace HA := Lib.hid (HA.out.below hb)
      replace HB := Lib.hid (HB.out.below hb)
      clear hb
      go_wp2
      go_ret
      exact ⟨rfl, HW5.out⟩
  · obtain ⟨q, HQ⟩ : ∃ q, Hid (dErr s a = q) := ⟨_, Lib.hid rfl⟩
    have KD1 := Lib.hid (fun A c w h => kDo HX.out HQ.out HSB.out HSL.out HEa.out A c w h)
    have KD2 := Lib.hid (fun A c w h => kDo HY.out (rfl : dErr s b = dErr s b) HSB.out HSL.out HEb.out A c w h)
    rw [HQ.out] at e1
    have hq : ((q : Int) != 0) = true := bne_iff_ne.2 (by omega)
    clear e1
    generalize dErr s b = r at KD2
    go_enter Try.func4, Try.ntmps4
    go_wp2_with fail
    refine (GWa.out _ HA.out).mono ?_
    rintro e w1 ⟨rfl, hb⟩
    have HW1 : Hid (Below w.heap.size w w1) := HW0.out.trans (hb.mono HW0.out.size)
    replace HA := Lib.hid (HA.out.below hb)
    replace HB := Lib.hid (HB.out.below hb)
    clear hb
    go_wp2_with fail
    refine (GWb.out _ HB.out).mono ?_
    rintro e w2 ⟨rfl, hb⟩
    have HW2 : Hid (Below w.heap.size w w2) := HW1.out.trans (hb.mono HW1.out.size)
    replace HA := Lib.hid (HA.out.below hb)
    replace HB := Lib.hid (HB.out.below hb)
    clear hb
    go_wp2_with fail
    refine (KD1.out _ _ _ HA.out).mono ?_
    rintro e w3 ⟨rfl, hb⟩
    have HW3 : Hid (Below w.heap.size w w3) := HW2.out.trans (hb.mono HW2.out.size)
    replace HA := Lib.hid (HA.out.below hb)
    replace HB := Lib.hid (HB.out.below hb)
    clear hb
    go_wp2_with fail
    refine (KD2.out _ _ _ HB.out).mono ?_
    rintro e w4 ⟨rfl, hb⟩
    have HW4 : Hid (Below w.heap.size w w4) := HW3.out.trans (hb.mono HW3.out.size)
    replace HA := Lib.hid (HA.out.below hb)
    replace HB := Lib.hid (HB.out.below hb)
    clear hb
    go_wp2_with fail
    refine (GA.out _).mono ?_
    rintro e w5 ⟨rfl, hb⟩
    have HW5 : Hid (Below w.heap.size w w5) := HW4.out.trans (hb.mono HW4.out.size)
    replace HA := Lib.hid (HA.out.below hb)
    replace HB := Lib.hid (HB.out.below hb)
    clear hb
    go_wp2
    go_ret
    exact ⟨rfl, HW5.out⟩
end Go.Proofs.Ytakdcfjlhpponaa

/- One edit, then the other one behind it, in either order, make one text: it answers true and changes nothing. No condition. -/
namespace Go.Proofs.Ytakdcfjlhpponaa
open Go.ChangeShapes Go.WideShapes Go.ChangeAt Go.RowKit

set_option maxRecDepth 100000 in
theorem xformMeets_lifted (os : Os) (started : os.Started) (H : Type) (enc : TypeId × Value → H) :
    ReturnsInHanded {} Try.checked os 4 .any (Rows.xformMeetsSpec.pre6 enc Try.prog Try.f4 Rows.xformMeetsRow.domain false) (Rows.xformMeetsSpec.post enc Try.prog Try.f4 false true false false) := by
  refine returnsInHanded_of_change (C := Try.checked) law_own started (by kernel_rfl) Try.func4
    (ChangeSpec.witness6 (enc := enc) (C := Try.checked) false ⟨#[], #[.string { data := #[] }, .slice none 0 0, .slice none 0 0, .bool false], []⟩ 8 (by kernel_rfl) (by kernel_rfl) (by kernel_rfl) (by kernel_rfl)) ?_
  intro W base args ds gs before hval0 hW _ _
  have hval : ∀ (j : Nat) t v, Try.f4.params[j]? = some t → args[j]? = some v → Value.okWide Try.prog W .any base t v := hval0
  have hW' := hW
  obtain ⟨p, q, hA0, hV, rfl, _, _⟩ := hW
  have hlt : ∀ x ∈ p ++ q, x.block < W.heap.size := fun x hx => hW'.lt x hx
  have hA : DataW.TrodAll enc Try.prog W 0 (fun _ => true) true Try.f4.params.toList args.toList ds p := hA0
  rw [Try.params4] at hA hval
  obtain ⟨v0, v1, v2, v3, d0, d1, d2, d3, p0, p1, p2, p3, rfl, rfl, rfl, h0, h1, h2, h3⟩ := trodAll_four hA
  obtain ⟨rfl, rfl⟩ := trodVars_none hV
  obtain ⟨s0, rfl, rfl, rfl, hsz0⟩ := Go.ChangeMaps.open_string Try.underlying9 (hval 0 9 v0 rfl rfl) h0
  obtain ⟨t0, hb0, rfl⟩ := bstr_any s0
  have hl0 : t0.length ≤ maxLen := by rw [bstr_size] at hsz0; exact hsz0
  obtain ⟨A1, l1, c1, rfl, hat1, hg1, hlc1, hc1⟩ := open_comps (hval 1 22 v1 rfl rfl) h1 (fun x hx => hlt x (by simp [hx]))
  have hl1 : l1.length ≤ maxLen := by omega
  obtain ⟨A2, l2, c2, rfl, hat2, hg2, hlc2, hc2⟩ := open_comps (hval 2 22 v2 rfl rfl) h2 (fun x hx => hlt x (by simp [hx]))
  have hl2 : l2.length ≤ maxLen := by omega
  obtain ⟨f3, rfl, rfl, rfl⟩ := open_bool Try.underlying4 (hval 3 4 v3 rfl rfl) h3
  clear hA0 hval0
  refine (xformMeets_any t0 A1 l1 c1 A2 l2 c2 f3 hb0 hl0 hl1 hg1 hl2 hg2 W ⟨hat1, hlc1⟩ ⟨hat2, hlc2⟩).mono fun e W' ⟨he, hb⟩ => ?_
  exact ⟨_, he, law_post law_laid (by kernel_rfl) (by kernel_rfl) Try.underlying4 rfl hW' rfl hb⟩

theorem xformMeets_holds : Rows.XformMeetsSaid :=
  OpenClaim.holds_of_wide 4 Try.f4 rfl rfl rfl rfl rfl rfl rfl ⟨rfl, rfl, rfl, rfl, rfl⟩ rfl rfl rfl rfl rfl (by kernel_rfl) Try.func4 (by kernel_rfl)
    (of_decide_eq_true (by kernel_rfl)) (by unfold Func.isWrapper; first | (rw [if_pos (by decide +kernel)]; kernel_rfl) | (rw [if_neg (by decide +kernel)]; exact ⟨rfl, rfl⟩))
    (fun os started H enc _ => xformMeets_lifted os started H enc)
end Go.Proofs.Ytakdcfjlhpponaa
