/- ComposeAsks holds: of any two edits, and of any row of them, the one that does all is what the document says, or refused: whatever the law is called with: it answers true and changes nothing. No condition. (Merged of 2 texts.) -/
import Derived.Test.YtoicgmfcbmjchaaKCom
import Derived.ChangeMaps5
/- ComposeAsks, walked: of any two edits, and of any row of them, the one that does all is what the document says, or refused. Condition: what memory may hold. -/
namespace Go.Proofs.Ytoicgmfcbmjchaa
open Go.RowKit Go.Deep

set_option maxHeartbeats 16000000 in
set_option maxRecDepth 100000 in
theorem composeAsks_any (A : Option Addr) (a : List CompV) (ca : Nat) (B : Option Addr) (b : List CompV) (cb : Nat) (base : Int) (R : Option Addr) (L : List EditR) (cr : Nat) (hla : a.length ≤ maxLen) (hga : ∀ y ∈ a, y.Good) (hlb : b.length ≤ maxLen) (hgb : ∀ y ∈ b, y.Good) (hbase : -9223372036854775808 ≤ base ∧ base ≤ 9223372036854775807) (hF : FineC L) (hL : L.length ≤ maxLen) (w : World) (hA : CompsC w A ca a) (hB : CompsC w B cb b) (hR : RowsC w R L) :
    Calls Try.prog 3 #[.slice A a.length ca, .slice B b.length cb, .int .i64 base, .slice R L.length cr] w fun e w' => e = .returned (.bool true) ∧ Below w.heap.size w w' := by
  have GA := Lib.hid (fun w => comAwake_any w)
  have GWa := Lib.hid (fun w h => alikeComps_c 2000 ca hla hga w (A := A) h)
  have GWb := Lib.hid (fun w h => alikeComps_c 2000 cb hlb hgb w (A := B) h)
  have HA := Lib.hid hA
  have HB := Lib.hid hB
  have HR := Lib.hid hR
  have HL := Lib.hid hL
  unfold maxLen at hL
  clear hA hB hR hla hlb
  obtain ⟨Ta, HTa⟩ : ∃ x, Hid (compsWeight 2000 a = x) := ⟨_, rfl⟩
  obtain ⟨Tb, HTb⟩ : ∃ x, Hid (compsWeight 2000 b = x) := ⟨_, rfl⟩
  rw [HTa.out] at GWa
  rw [HTb.out] at GWb
  have HW0 := Lib.hid (Below.refl w.heap.size w)
  by_cases g1 : 2000 < Ta
  · clear hga hgb hF hbase
    go_enter Try.func3, Try.ntmps3
    go_wp2_with fail
    refine (GWa.out _ HA.out).mono ?_
    rintro e w1 ⟨rfl, hb⟩
    have HW1 : Hid (Below w.heap.size w w1) := HW0.out.trans (hb.mono HW0.out.size)
    replace HA := Lib.hid (HA.out.below hb)
    replace HB := Lib.hid (HB.out.below hb)
    clear hb
    go_wp2_with fail
    refine (GA.out _).mono ?_
    rintro e w2 ⟨rfl, hb⟩
    have HW2 : Hid (Below w.heap.size w w2) := HW1.out.trans (hb.mono HW1.out.size)
    replace HA := Lib.hid (HA.out.below hb)
    replace HB := Lib.hid (HB.out.below hb)
    clear hb
    go_wp2
    go_ret
    exact ⟨rfl, HW2.out⟩
  by_cases g2 : 2000 < Tb
  · clear hga hgb hF hbase
    go_enter Try.func3, Try.ntmps3
    go_wp2_with fail
    refine (GWa.out _ HA.out).mono ?_
    rintro e w1 ⟨rfl, hb⟩
    have HW1 : Hid (Below w.heap.size w w1) := HW0.out.trans (hb.mono HW0.out.size)
    replace HA := Lib.hid (HA.out.below hb)
    replace HB := Lib.hid (HB.out.below hb)
    clear hb
    go_wp2_with fail
    refine (GWb.out _ HB.out).mono ?_
    rintro e w2 ⟨rfl, hb⟩
    have HW2 : Hid (Below w.heap.size w w2) := HW1.out.trans (hb.mono HW1.out.size)
    replace HA := Lib.hid (HA.out.below hb)
    replace HB := Lib.hid (HB.out.below hb)
    clear hb
    go_wp2_with fail
    refine (GA.out _).mono ?_
    rintro e w3 ⟨rfl, hb⟩
    have HW3 : Hid (Below w.heap.size w w3) := HW2.out.trans (hb.mono HW2.out.size)
    replace HA := Lib.hid (HA.out.below hb)
    replace HB := Lib.hid (HB.out.below hb)
    clear hb
    go_wp2
    go_ret
    exact ⟨rfl, HW3.out⟩
  have HEa := Lib.hid (held_of hga (weight_spec 2000 (by omega) a (by rw [HTa.out]; omega)) (by omega))
  have HEb := Lib.hid (held_of hgb (weight_spec 2000 (by omega) b (by rw [HTb.out]; omega)) (by omega))
  clear hga hgb
  by_cases g3 : 6 < L.length
  · clear hF hbase
    go_enter Try.func3, Try.ntmps3
    go_wp2_with fail
    refine (GWa.out _ HA.out).mono ?_
    rintro e w1 ⟨rfl, hb⟩
    have HW1 : Hid (Below w.heap.size w w1) := HW0.out.trans (hb.mono HW0.out.size)
    replace HA := Lib.hid (HA.out.below hb)
    replace HB := Lib.hid (HB.out.below hb)
    clear hb
    go_wp2_with fail
    refine (GWb.out _ HB.out).mono ?_
    rintro e w2 ⟨rfl, hb⟩
    have HW2 : Hid (Below w.heap.size w w2) := HW1.out.trans (hb.mono HW1.out.size)
    replace HA := Lib.hid (HA.out.below hb)
    replace HB := Lib.hid (HB.out.below hb)
    clear hb
    go_wp2_with fail
    refine (GA.out _).mono ?_
    rintro e w3 ⟨rfl, hb⟩
    have HW3 : Hid (Below w.heap.size w w3) := HW2.out.trans (hb.mono HW2.out.size)
    replace HA := Lib.hid (HA.out.below hb)
    replace HB := Lib.hid (HB.out.below hb)
    clear hb
    go_wp2
    go_ret
    exact ⟨rfl, HW3.out⟩
  have HF := Lib.hid hF
  have HBS : Hid (Fit64 base) := hbase
  clear hF hbase
  obtain ⟨d, q, hd⟩ : ∃ d q, rTwo a b = (d, q) := ⟨_, _, rfl⟩
  obtain ⟨r, v, hr⟩ : ∃ r v, rAll (keepL base, 0) (edits L) = (r, v) := ⟨_, _, rfl⟩
  have KT := Lib.hid (fun A ca B cb w h1 h2 => kTwo hd HEa.out HEb.out A ca B cb w h1 h2)
  have KTr := Lib.hid (fun A ca B cb w h1 h2 => kRefTwo hd HEa.out HEb.out A ca B cb w h1 h2)
  have HRR := Lib.hid hr
  clear hd hr
  go_enter Try.func3, Try.ntmps3
  go_wp2_with fail
  refine (GWa.out _ HA.out).mono ?_
  rintro e w1 ⟨rfl, hb⟩
  have HW1 : Hid (Below w.heap.size w w1) := HW0.out.trans (hb.mono HW0.out.size)
  replace HA := Lib.hid (HA.out.below hb)
  replace HB := Lib.hid (HB.out.below hb)
  replace HR := Lib.hid (HR.out.below hb)
  clear hb
  go_wp2_with fail
  refine (GWb.out _ HB.out).mono ?_
  rintro e w2 ⟨rfl, hb⟩
  have HW2 : Hid (Below w.heap.size w w2) := HW1.out.trans (hb.mono HW1.out.size)
  replace HA := Lib.hid (HA.out.below hb)
  replace HB := Lib.hid (HB.out.below hb)
  replace HR := Lib.hid (HR.out.below hb)
  clear hb
  go_wp2
  go_loopw [8, 9] (fun rs i wr => ∃ k : Nat, k ≤ L.length ∧ i = .int .i64 k ∧ rs = .bool false ∧ (∀ j x, j < k → L[j]? = some x → compsWeight 1000 x.2.2 ≤ 1000) ∧ Below w2.heap.size w2 wr) (fun _ i _ => L.length - (intOf i).toNat)
  case atStart => exact ⟨0, Nat.zero_le _, rfl, rfl, fun j x hj => by omega, Below.refl _ _⟩
  case round =>
    obtain ⟨k, hk, rfl, rfl, hpre, hbel⟩ := hrel
    have HPRE := Lib.hid hpre
    have HBEL := Lib.hid hbel
    clear hpre hbel
    by_cases hlt : k < L.length
    · obtain ⟨b0, off, rfl, _⟩ := HR.out.form (by omega)
      obtain ⟨x0, hc0⟩ := (HR.out.below HBEL.out).cell hlt
      have HC0 := Lib.hid hc0
      have hfk := HF.out _ (List.getElem_mem hlt)
      have hgk := hfk.1
      have hlk : L[k].2.2.length ≤ maxLen := Nat.le_trans hfk.2.1 hfk.2.2
      have HGET := Lib.hid (List.getElem?_eq_getElem hlt)
      generalize L[k] = y at x0 HC0 hgk hlk HGET
      obtain ⟨Ay, cy, ly⟩ := y
      simp only at x0 HC0 hgk hlk HGET
      have GWk := Lib.hid (fun w h => alikeComps_c 1000 cy hlk hgk w (A := Ay) h)
      obtain ⟨Tk, HTK⟩ : ∃ x, Hid (compsWeight 1000 ly = x) := ⟨_, rfl⟩
      rw [HTK.out] at GWk
      clear hc0 hfk hgk hlk
      by_cases g4 : 1000 < Tk
      · go_wp2_with fail
        refine (GWk.out _ HC0.out).mono ?_
        rintro e w3 ⟨rfl, hb⟩
        have HW3 : Hid (Below w.heap.size w w3) := (HW2.out.trans (HBEL.out.mono HW2.out.size)).trans (hb.mono (HW2.out.trans (HBEL.out.mono HW2.out.size)).size)
        clear hb
        go_wp2_with fail
        refine (GA.out _).mono ?_
        rintro e w4 ⟨rfl, hb⟩
        have HW4 : Hid (Below w.heap.size w w4) := HW3.out.trans (hb.mono HW3.out.size)
        clear hb
        go_wp2
        go_ret
        exact ⟨rfl, HW4.out⟩
      · go_wp2_with fail
        refine (GWk.out _ HC0.out).mono ?_
        rintro e w3 ⟨rfl, hb⟩
        have HB3 : Hid (Below w2.heap.size w2 w3) := HBEL.out.trans (hb.mono HBEL.out.size)
        clear hb x0
        go_wp2
        go_roundw
        case rel => exact ⟨k + 1, by omega, by go_num, rfl, fun j x hj hx => by
          rcases Nat.lt_or_ge j k with h | h
          · exact HPRE.out j x h hx
          · have e : j = k := by omega
            subst e
            rw [HGET.out] at hx
            have e2 := Option.some.inj hx
            rw [← e2]
            show compsWeight 1000 ly ≤ 1000
            rw [HTK.out]
            omega, HB3.out⟩
        case measure => simp [intOf]; omega
    · have hke : k = L.length := by omega
      subst hke
      have hheld : ∀ x ∈ L, Held1 x.2.2 := fun x hx => by
        obtain ⟨j, hj, he⟩ := List.getElem_of_mem hx
        exact held_of (HF.out x hx).1 (weight_spec 1000 (by omega) _ (HPRE.out j x hj (by rw [List.getElem?_eq_getElem hj, he]))) (by omega)
      have KA := Lib.hid (fun w h => kAll HRR.out HBS.out R cr HL.out hheld w h)
      have KAr := Lib.hid (fun w h => kRefAll HRR.out HBS.out R cr HL.out hheld w h)
      obtain ⟨w3, hw3⟩ : ∃ x, x = wr := ⟨wr, rfl⟩
      subst hw3
      have HW3 : Hid (Below w.heap.size w w3) := HW2.out.trans (HBEL.out.mono HW2.out.size)
      replace HA := Lib.hid (HA.out.below HBEL.out)
      replace HB := Lib.hid (HB.out.below HBEL.out)
      replace HR := Lib.hid (HR.out.below HBEL.out)
      clear hheld
      go_wp2_with fail
      refine (KT.out _ _ _ _ _ HA.out HB.out).mono ?_
      rintro e w4 ⟨⟨⟨A1, c1, rfl, hk⟩, hh⟩, hb⟩
      have HW4 : Hid (Below w.heap.size w w4) := HW3.out.trans (hb.mono HW3.out.size)
      replace HA := Lib.hid (HA.out.below hb)
      replace HB := Lib.hid (HB.out.below hb)
      replace HR := Lib.hid (HR.out.below hb)
      have H1 := Lib.hid hk
      have HH1 := Lib.hid hh
      clear hk hh
      clear hb
      go_wp2_with fail
      refine (KTr.out _ _ _ _ _ HA.out HB.out).mono ?_
      rintro e w5 ⟨⟨⟨A2, c2, rfl, hk⟩, hh⟩, hb⟩
      have HW5 : Hid (Below w.heap.size w w5) := HW4.out.trans (hb.mono HW4.out.size)
      replace HA := Lib.hid (HA.out.below hb)
      replace HB := Lib.hid (HB.out.below hb)
      replace HR := Lib.hid (HR.out.below hb)
      replace H1 := Lib.hid (H1.out.below hb)
      have H2 := Lib.hid hk
      have HH2 := Lib.hid hh
      clear hk hh
      clear hb
      go_wp2_with fail
      refine (KA.out _ HR.out).mono ?_
      rintro e w6 ⟨⟨⟨A3, c3, rfl, hk⟩, hh⟩, hb⟩
      have HW6 : Hid (Below w.heap.size w w6) := HW5.out.trans (hb.mono HW5.out.size)
      replace HA := Lib.hid (HA.out.below hb)
      replace HB := Lib.hid (HB.out.below hb)
      replace HR := Lib.hid (HR.out.below hb)
      replace H1 := Lib.hid (H1.out.below hb)
      replace H2 := Lib.hid (H2.out.below hb)
      have H3 := Lib.hid hk
      have HH3 := Lib.hid hh
      clear hk hh
      clear hb
      go_wp2_with fail
      refine (KAr.out _ HR.out).mono ?_
      rintro e w7 ⟨⟨⟨A4, c4, rfl, hk⟩, hh⟩, hb⟩
      have HW7 : Hid (Below w.heap.size w w7) := HW6.out.trans (hb.mono HW6.out.size)
      replace HA := Lib.hid (HA.out.below hb)
      replace HB := Lib.hid (HB.out.below hb)
      replace HR := Lib.hid (HR.out.below hb)
      replace H1 := Lib.hid (H1.out.below hb)
      replace H2 := Lib.hid (H2.out.below hb)
      replace H3 := Lib.hid (H3.out.below hb)
      have H4 := Lib.hid hk
      have HH4 := Lib.hid hh
      clear hk hh
      clear hb
      go_wp2_with fail
      refine (kRefSame HH1.out _ _ _ _ _ H1.out H2.out).mono ?_
      rintro e w8 ⟨rfl, hb⟩
      have HW8 : Hid (Below w.heap.size w w8) := HW7.out.trans (hb.mono HW7.out.size)
      replace HA := Lib.hid (HA.out.below hb)
      replace HB := Lib.hid (HB.out.below hb)
      replace HR := Lib.hid (HR.out.below hb)
      replace H1 := Lib.hid (H1.out.below hb)
      replace H2 := Lib.hid (H2.out.below hb)
      replace H3 := Lib.hid (H3.out.below hb)
      replace H4 := Lib.hid (H4.out.below hb)
      clear hb
      go_wp2_with fail
      refine (kRefSame HH3.out _ _ _ _ _ H3.out H4.out).mono ?_
      rintro e w9 ⟨rfl, hb⟩
      have HW9 : Hid (Below w.heap.size w w9) := HW8.out.trans (hb.mono HW8.out.size)
      replace HA := Lib.hid (HA.out.below hb)
      replace HB := Lib.hid (HB.out.below hb)
      replace HR := Lib.hid (HR.out.below hb)
      replace H1 := Lib.hid (H1.out.below hb)
      replace H2 := Lib.hid (H2.out.below hb)
      replace H3 := Lib.hid (H3.out.below hb)
      replace H4 := Lib.hid (H4.out.below hb)
      clear hb
      go_wp2_with fail
      refine (GA.out _).mono ?_
      rintro e w10 ⟨rfl, hb⟩
      have HW10 : Hid (Below w.heap.size w w10) := HW9.out.trans (hb.mono HW9.out.size)
      replace HA := Lib.hid (HA.out.below hb)
      replace HB := Lib.hid (HB.out.below hb)
      replace HR := Lib.hid (HR.out.below hb)
      replace H1 := Lib.hid (H1.out.below hb)
      replace H2 := Lib.hid (H2.out.below hb)
      replace H3 := Lib.hid (H3.out.below hb)
      replace H4 := Lib.hid (H4.out.below hb)
      clear hb
      go_wp2
      go_ret
      exact ⟨rfl, HW10.out⟩
end Go.Proofs.Ytoicgmfcbmjchaa

/- ComposeAsks holds: of any two edits, and of any row of them, the one that does all is what the document says, or refused: whatever the law is called with: it answers true and changes nothing. No condition. -/
namespace Go.Proofs.Ytoicgmfcbmjchaa
open Go.ChangeShapes Go.WideShapes Go.ChangeAt Go.RowKit

set_option maxRecDepth 100000 in
theorem composeAsks_lifted (os : Os) (started : os.Started) (H : Type) (enc : TypeId × Value → H) :
    ReturnsInHanded {} Try.checked os 3 .any (Rows.composeAsksSpec.pre6 enc Try.prog Try.f3 Rows.composeAsksRow.domain false) (Rows.composeAsksSpec.post enc Try.prog Try.f3 false true false false) := by
  refine returnsInHanded_of_change (C := Try.checked) law_own started (by kernel_rfl) Try.func3
    (ChangeSpec.witness6 (enc := enc) (C := Try.checked) false ⟨#[], #[.slice none 0 0, .slice none 0 0, .int .i64 0, .slice none 0 0], []⟩ 8 (by kernel_rfl) (by kernel_rfl) (by kernel_rfl) (by kernel_rfl)) ?_
  intro W base args ds gs before hval0 hW _ _
  have hval : ∀ (j : Nat) t v, Try.f3.params[j]? = some t → args[j]? = some v → Value.okWide Try.prog W .any base t v := hval0
  have hW' := hW
  obtain ⟨p, q, hA0, hV, rfl, _, _⟩ := hW
  have hlt : ∀ x ∈ p ++ q, x.block < W.heap.size := fun x hx => hW'.lt x hx
  have hA : DataW.TrodAll enc Try.prog W 0 (fun _ => true) true Try.f3.params.toList args.toList ds p := hA0
  rw [Try.params3] at hA hval
  obtain ⟨v0, v1, v2, v3, d0, d1, d2, d3, p0, p1, p2, p3, rfl, rfl, rfl, h0, h1, h2, h3⟩ := trodAll_four hA
  obtain ⟨rfl, rfl⟩ := trodVars_none hV
  obtain ⟨A0, l0, c0, rfl, hat0, hg0, hlc0, hc0⟩ := open_comps (hval 0 22 v0 rfl rfl) h0 (fun x hx => hlt x (by simp [hx]))
  have hl0 : l0.length ≤ maxLen := by omega
  obtain ⟨A1, l1, c1, rfl, hat1, hg1, hlc1, hc1⟩ := open_comps (hval 1 22 v1 rfl rfl) h1 (fun x hx => hlt x (by simp [hx]))
  have hl1 : l1.length ≤ maxLen := by omega
  obtain ⟨n2, rfl, rfl, rfl, hw2⟩ := open_int Try.underlying3 (hval 2 3 v2 rfl rfl) h2
  have hn2 : -9223372036854775808 ≤ n2 ∧ n2 ≤ 9223372036854775807 := by simpa [Lit.wf, IntKind.min, IntKind.max, IntKind.signed, IntKind.bits] using hw2
  obtain ⟨A3, L3, c3, rfl, hat3, hF3, hlc3, hc3⟩ := open_compss (hval 3 23 v3 rfl rfl) h3 (fun x hx => hlt x (by simp [hx]))
  have hL3 : L3.length ≤ maxLen := by omega
  clear hA0 hval0
  refine (composeAsks_any A0 l0 c0 A1 l1 c1 n2 A3 L3 c3 hl0 hg0 hl1 hg1 hn2 hF3 hL3 W ⟨hat0, hlc0⟩ ⟨hat1, hlc1⟩ hat3).mono fun e W' ⟨he, hb⟩ => ?_
  exact ⟨_, he, law_post law_laid (by kernel_rfl) (by kernel_rfl) Try.underlying4 rfl hW' rfl hb⟩

theorem composeAsks_holds : Rows.ComposeAsksSaid :=
  OpenClaim.holds_of_wide 3 Try.f3 rfl rfl rfl rfl rfl rfl rfl ⟨rfl, rfl, rfl, rfl, rfl⟩ rfl rfl rfl rfl rfl (by kernel_rfl) Try.func3 (by kernel_rfl)
    (of_decide_eq_true (by kernel_rfl)) (by unfold Func.isWrapper; first | (rw [if_pos (by decide +kernel)]; kernel_rfl) | (rw [if_neg (by decide +kernel)]; exact ⟨rfl, rfl⟩))
    (fun os started H enc _ => composeAsks_lifted os started H enc)
end Go.Proofs.Ytoicgmfcbmjchaa
