/- Of any two edits, each behind the other one, and one behind a row of them, are what the document says, or refused: it answers true and changes nothing. No condition. (Merged of 2 texts.) -/
import Derived.Test.YtakdcfjlhpponaaKXk
import Derived.ChangeMaps5
/- XformAsks, walked: of any two edits, each behind the other one, and one behind a row of them, are what the document says, or refused. Condition: what memory may hold. -/
namespace Go.Proofs.Ytakdcfjlhpponaa
open Go.RowKit Go.Deep

set_option maxHeartbeats 16000000 in
set_option maxRecDepth 100000 in
theorem xformAsks_any (A : Option Addr) (a : List CompV) (ca : Nat) (B : Option Addr) (b : List CompV) (cb : Nat) (f : Bool) (R : Option Addr) (L : List EditR) (cr : Nat) (hla : a.length ≤ maxLen) (hga : ∀ y ∈ a, y.Good) (hlb : b.length ≤ maxLen) (hgb : ∀ y ∈ b, y.Good) (hF : FineC L) (hL : L.length ≤ maxLen) (w : World) (hA : CompsC w A ca a) (hB : CompsC w B cb b) (hR : RowsC w R L) :
    Calls Try.prog 3 #[.slice A a.length ca, .slice B b.length cb, .bool f, .slice R L.length cr] w fun e w' => e = .returned (.bool true) ∧ Below w.heap.size w w' := by
  have GA := Lib.hid (fun w => xfAwake_any w)
  have GWa := Lib.hid (fun w h => alikeComps_c 2000 ca hla hga w (A := A) h)
  have GWb := Lib.hid (fun w h => alikeComps_c 2000 cb hlb hgb w (A := B) h)
  have HA := Lib.hid hA
  have HB := Lib.hid hB
  have HR := Lib.hid hR
  have HL := Lib.hid hL
  unfold maxLen at hL
  clear hA hB hR hla hlb
  obtain ⟨Ta, HTa⟩ : ∃ x, Hid (compsWeight 2000 a = x) := ⟨_, rfl⟩
  obtain ⟨Tb, HTb⟩ : ∃ x, Hid (compsWeight 2000 b = x) := ⟨_, rfl⟩
  rw [HTa.out] at GWa
  rw [HTb.out] at GWb
  have HW0 := Lib.hid (Below.refl w.heap.size w)
  by_cases g1 : 2000 < Ta
  · clear hga hgb hF
    go_enter Try.func3, Try.ntmps3
    go_wp2_with fail
    refine (GWa.out _ HA.out).mono ?_
    rintro e w1 ⟨rfl, hb⟩
    have HW1 : Hid (Below w.heap.size w w1) := HW0.out.trans (hb.mono HW0.out.size)
    replace HA := Lib.hid (HA.out.below hb)
    replace HB := Lib.hid (HB.out.below hb)
    clear hb
    go_wp2_with fail
    refine (GA.out _).mono ?_
    rintro e w2 ⟨rfl, hb⟩
    have HW2 : Hid (Below w.heap.size w w2) := HW1.out.trans (hb.mono HW1.out.size)
    replace HA := Lib.hid (HA.out.below hb)
    replace HB := Lib.hid (HB.out.below hb)
    clear hb
    go_wp2
    go_ret
    exact ⟨rfl, HW2.out⟩
  by_cases g2 : 2000 < Tb
  · clear hga hgb hF
    go_enter Try.func3, Try.ntmps3
    go_wp2_with fail
    refine (GWa.out _ HA.out).mono ?_
    rintro e w1 ⟨rfl, hb⟩
    have HW1 : Hid (Below w.heap.size w w1) := HW0.out.trans (hb.mono HW0.out.size)
    replace HA := Lib.hid (HA.out.below hb)
    replace HB := Lib.hid (HB.out.below hb)
    clear hb
    go_wp2_with fail
    refine (GWb.out _ HB.out).mono ?_
    rintro e w2 ⟨rfl, hb⟩
    have HW2 : Hid (Below w.heap.size w w2) := HW1.out.trans (hb.mono HW1.out.size)
    replace HA := Lib.hid (HA.out.below hb)
    replace HB := Lib.hid (HB.out.below hb)
    clear hb
    go_wp2_with fail
    refine (GA.out _).mono ?_
    rintro e w3 ⟨rfl, hb⟩
    have HW3 : Hid (Below w.heap.size w w3) := HW2.out.trans (hb.mono HW2.out.size)
    replace HA := Lib.hid (HA.out.below hb)
    replace HB := Lib.hid (HB.out.below hb)
    clear hb
    go_wp2
    go_ret
    exact ⟨rfl, HW3.out⟩
  have HEa := Lib.hid (held_of hga (weight_spec 2000 (by omega) a (by rw [HTa.out]; omega)) (by omega))
  have HEb := Lib.hid (held_of hgb (weight_spec 2000 (by omega) b (by rw [HTb.out]; omega)) (by omega))
  clear hga hgb
  by_cases g3 : 6 < L.length
  · clear hF
    go_enter Try.func3, Try.ntmps3
    go_wp2_with fail
    refine (GWa.out _ HA.out).mono ?_
    rintro e w1 ⟨rfl, hb⟩
    have HW1 : Hid (Below w.heap.size w w1) := HW0.out.trans (hb.mono HW0.out.size)
    replace HA := Lib.hid (HA.out.below hb)
    replace HB := Lib.hid (HB.out.below hb)
    clear hb
    go_wp2_with fail
    refine (GWb.out _ HB.out).mono ?_
    rintro e w2 ⟨rfl, hb⟩
    have HW2 : Hid (Below w.heap.size w w2) := HW1.out.trans (hb.mono HW1.out.size)
    replace HA := Lib.hid (HA.out.below hb)
    replace HB := Lib.hid (HB.out.below hb)
    clear hb
    go_wp2_with fail
    refine (GA.out _).mono ?_
    rintro e w3 ⟨rfl, hb⟩
    have HW3 : Hid (Below w.heap.size w w3) := HW2.out.trans (hb.mono HW2.out.size)
    replace HA := Lib.hid (HA.out.below hb)
    replace HB := Lib.hid (HB.out.below hb)
    clear hb
    go_wp2
    go_ret
    exact ⟨rfl, HW3.out⟩
  have HF := Lib.hid hF
  clear hF
  obtain ⟨x, q, hx⟩ : ∃ d q, rOver f a b = (d, q) := ⟨_, _, rfl⟩
  obtain ⟨p, u, hp⟩ : ∃ d q, rOver true a b = (d, q) := ⟨_, _, rfl⟩
  obtain ⟨r, v, hr⟩ : ∃ d q, rOver false b a = (d, q) := ⟨_, _, rfl⟩
  obtain ⟨m, z, hm⟩ : ∃ d q, rMany f (a, 0) (edits L) = (d, q) := ⟨_, _, rfl⟩
  have KX := Lib.hid (fun A ca B cb w h1 h2 => kOver hx HEa.out HEb.out A ca B cb w h1 h2)
  have KXr := Lib.hid (fun A ca B cb w h1 h2 => kRefOver hx HEa.out HEb.out A ca B cb w h1 h2)
  have KB := Lib.hid (fun A ca B cb w h1 h2 => kBoth hp hr HEa.out HEb.out A ca B cb w h1 h2)
  have KP := Lib.hid (fun A ca B cb w h1 h2 => kRefOver hp HEa.out HEb.out A ca B cb w h1 h2)
  have KR := Lib.hid (fun A ca B cb w h1 h2 => kRefOver hr HEb.out HEa.out A ca B cb w h1 h2)
  have HMM := Lib.hid hm
  clear hx hp hr hm
  go_enter Try.func3, Try.ntmps3
  go_wp2_with fail
  refine (GWa.out _ HA.out).mono ?_
  rintro e w1 ⟨rfl, hb⟩
  have HW1 : Hid (Below w.heap.size w w1) := HW0.out.trans (hb.mono HW0.out.size)
  replace HA := Lib.hid (HA.out.below hb)
  replace HB := Lib.hid (HB.out.below hb)
  replace HR := Lib.hid (HR.out.below hb)
  clear hb
  go_wp2_with fail
  refine (GWb.out _ HB.out).mono ?_
  rintro e w2 ⟨rfl, hb⟩
  have HW2 : Hid (Below w.heap.size w w2) := HW1.out.trans (hb.mono HW1.out.size)
  replace HA := Lib.hid (HA.out.below hb)
  replace HB := Lib.hid (HB.out.below hb)
  replace HR := Lib.hid (HR.out.below hb)
  clear hb
  go_wp2
  go_loopw [8, 9] (fun rs i wr => ∃ k : Nat, k ≤ L.length ∧ i = .int .i64 k ∧ rs = .bool false ∧ (∀ j x, j < k → L[j]? = some x → compsWeight 1000 x.2.2 ≤ 1000) ∧ Below w2.heap.size w2 wr) (fun _ i _ => L.length - (intOf i).toNat)
  case atStart => exact ⟨0, Nat.zero_le _, rfl, rfl, fun j x hj => by omega, Below.refl _ _⟩
  case round =>
    obtain ⟨k, hk, rfl, rfl, hpre, hbel⟩ := hrel
    have HPRE := Lib.hid hpre
    have HBEL := Lib.hid hbel
    clear hpre hbel
    by_cases hlt : k < L.length
    · obtain ⟨b0, off, rfl, _⟩ := HR.out.form (by omega)
      obtain ⟨x0, hc0⟩ := (HR.out.below HBEL.out).cell hlt
      have HC0 := Lib.hid hc0
      have hfk := HF.out _ (List.getElem_mem hlt)
      have hgk := hfk.1
      have hlk : L[k].2.2.length ≤ maxLen := Nat.le_trans hfk.2.1 hfk.2.2
      have HGET := Lib.hid (List.getElem?_eq_getElem hlt)
      generalize L[k] = y at x0 HC0 hgk hlk HGET
      obtain ⟨Ay, cy, ly⟩ := y
      simp only at x0 HC0 hgk hlk HGET
      have GWk := Lib.hid (fun w h => alikeComps_c 1000 cy hlk hgk w (A := Ay) h)
      obtain ⟨Tk, HTK⟩ : ∃ x, Hid (compsWeight 1000 ly = x) := ⟨_, rfl⟩
      rw [HTK.out] at GWk
      clear hc0 hfk hgk hlk
      by_cases g4 : 1000 < Tk
      · go_wp2_with fail
        refine (GWk.out _ HC0.out).mono ?_
        rintro e w3 ⟨rfl, hb⟩
        have HW3 : Hid (Below w.heap.size w w3) := (HW2.out.trans (HBEL.out.mono HW2.out.size)).trans (hb.mono (HW2.out.trans (HBEL.out.mono HW2.out.size)).size)
        clear hb
        go_wp2_with fail
        refine (GA.out _).mono ?_
        rintro e w4 ⟨rfl, hb⟩
        have HW4 : Hid (Below w.heap.size w w4) := HW3.out.trans (hb.mono HW3.out.size)
        clear hb
        go_wp2
        go_ret
        exact ⟨rfl, HW4.out⟩
      · go_wp2_with fail
        refine (GWk.out _ HC0.out).mono ?_
        rintro e w3 ⟨rfl, hb⟩
        have HB3 : Hid (Below w2.heap.size w2 w3) := HBEL.out.trans (hb.mono HBEL.out.size)
        clear hb x0
        go_wp2
        go_roundw
        case rel => exact ⟨k + 1, by omega, by go_num, rfl, fun j x hj hx => by
          rcases Nat.lt_or_ge j k with h | h
          · exact HPRE.out j x h hx
          · have e : j = k := by omega
            subst e
            rw [HGET.out] at hx
            have e2 := Option.some.inj hx
            rw [← e2]
            show compsWeight 1000 ly ≤ 1000
            rw [HTK.out]
            omega, HB3.out⟩
        case measure => simp [intOf]; omega
    · have hke : k = L.length := by omega
      subst hke
      have hheld : ∀ x ∈ L, Held1 x.2.2 := fun x hx => by
        obtain ⟨j, hj, he⟩ := List.getElem_of_mem hx
        exact held_of (HF.out x hx).1 (weight_spec 1000 (by omega) _ (HPRE.out j x hj (by rw [List.getElem?_eq_getElem hj, he]))) (by omega)
      have KM := Lib.hid (fun A ca w hA hR => kMany HMM.out HEa.out A ca R cr HL.out hheld w hA hR)
      have HHE := Lib.hid hheld
      obtain ⟨w3, hw3⟩ : ∃ x, x = wr := ⟨wr, rfl⟩
      subst hw3
      have HW3 : Hid (Below w.heap.size w w3) := HW2.out.trans (HBEL.out.mono HW2.out.size)
      replace HA := Lib.hid (HA.out.below HBEL.out)
      replace HB := Lib.hid (HB.out.below HBEL.out)
      replace HR := Lib.hid (HR.out.below HBEL.out)
      clear hheld
      go_wp2_with fail
      refine (KX.out _ _ _ _ _ HA.out HB.out).mono ?_
      rintro e w4 ⟨⟨⟨A1, c1, rfl, hk⟩, hh⟩, hb⟩
      have HW4 : Hid (Below w.heap.size w w4) := HW3.out.trans (hb.mono HW3.out.size)
      replace HA := Lib.hid (HA.out.below hb)
      replace HB := Lib.hid (HB.out.below hb)
      replace HR := Lib.hid (HR.out.below hb)
      have H1 := Lib.hid hk
      have HH1 := Lib.hid hh
      clear hk hh
      clear hb
      go_wp2_with fail
      refine (KXr.out _ _ _ _ _ HA.out HB.out).mono ?_
      rintro e w5 ⟨⟨⟨A2, c2, rfl, hk⟩, hh⟩, hb⟩
      have HW5 : Hid (Below w.heap.size w w5) := HW4.out.trans (hb.mono HW4.out.size)
      replace HA := Lib.hid (HA.out.below hb)
      replace HB := Lib.hid (HB.out.below hb)
      replace HR := Lib.hid (HR.out.below hb)
      replace H1 := Lib.hid (H1.out.below hb)
      have H2 := Lib.hid hk
      have HH2 := Lib.hid hh
      clear hk hh
      clear hb
      go_wp2_with fail
      refine (KB.out _ _ _ _ _ HA.out HB.out).mono ?_
      rintro e w6 ⟨⟨⟨A3, c3, A4, c4, rfl, hk, hk2⟩, hh, hh2⟩, hb⟩
      have HW6 : Hid (Below w.heap.size w w6) := HW5.out.trans (hb.mono HW5.out.size)
      replace HA := Lib.hid (HA.out.below hb)
      replace HB := Lib.hid (HB.out.below hb)
      replace HR := Lib.hid (HR.out.below hb)
      replace H1 := Lib.hid (H1.out.below hb)
      replace H2 := Lib.hid (H2.out.below hb)
      have H3 := Lib.hid hk
      have HH3 := Lib.hid hh
      clear hk hh
      have H4 := Lib.hid hk2
      have HH4 := Lib.hid hh2
      clear hk2 hh2
      clear hb
      go_wp2_with fail
      refine (KP.out _ _ _ _ _ HA.out HB.out).mono ?_
      rintro e w7 ⟨⟨⟨A5, c5, rfl, hk⟩, hh⟩, hb⟩
      have HW7 : Hid (Below w.heap.size w w7) := HW6.out.trans (hb.mono HW6.out.size)
      replace HA := Lib.hid (HA.out.below hb)
      replace HB := Lib.hid (HB.out.below hb)
      replace HR := Lib.hid (HR.out.below hb)
      replace H1 := Lib.hid (H1.out.below hb)
      replace H2 := Lib.hid (H2.out.below hb)
      replace H3 := Lib.hid (H3.out.below hb)
      replace H4 := Lib.hid (H4.out.below hb)
      have H5 := Lib.hid hk
      have HH5 := Lib.hid hh
      clear hk hh
      clear hb
      go_wp2_with fail
      refine (KR.out _ _ _ _ _ HB.out HA.out).mono ?_
      rintro e w8 ⟨⟨⟨A6, c6, rfl, hk⟩, hh⟩, hb⟩
      have HW8 : Hid (Below w.heap.size w w8) := HW7.out.trans (hb.mono HW7.out.size)
      replace HA := Lib.hid (HA.out.below hb)
      replace HB := Lib.hid (HB.out.below hb)
      replace HR := Lib.hid (HR.out.below hb)
      replace H1 := Lib.hid (H1.out.below hb)
      replace H2 := Lib.hid (H2.out.below hb)
      replace H3 := Lib.hid (H3.out.below hb)
      replace H4 := Lib.hid (H4.out.below hb)
      replace H5 := Lib.hid (H5.out.below hb)
      have H6 := Lib.hid hk
      have HH6 := Lib.hid hh
      clear hk hh
      clear hb
      go_wp2_with fail
      refine (kRefSame HH1.out _ _ _ _ _ H1.out H2.out).mono ?_
      rintro e w9 ⟨rfl, hb⟩
      have HW9 : Hid (Below w.heap.size w w9) := HW8.out.trans (hb.mono HW8.out.size)
      replace HA := Lib.hid (HA.out.below hb)
      replace HB := Lib.hid (HB.out.below hb)
      replace HR := Lib.hid (HR.out.below hb)
      replace H1 := Lib.hid (H1.out.below hb)
      replace H2 := Lib.hid (H2.out.below hb)
      replace H3 := Lib.hid (H3.out.below hb)
      replace H4 := Lib.hid (H4.out.below hb)
      replace H5 := Lib.hid (H5.out.below hb)
      replace H6 := Lib.hid (H6.out.below hb)
      clear hb
      go_wp2_with fail
      refine (kRefSame HH3.out _ _ _ _ _ H3.out H5.out).mono ?_
      rintro e w10 ⟨rfl, hb⟩
      have HW10 : Hid (Below w.heap.size w w10) := HW9.out.trans (hb.mono HW9.out.size)
      replace HA := Lib.hid (HA.out.below hb)
      replace HB := Lib.hid (HB.out.below hb)
      replace HR := Lib.hid (HR.out.below hb)
      replace H1 := Lib.hid (H1.out.below hb)
      replace H2 := Lib.hid (H2.out.below hb)
      replace H3 := Lib.hid (H3.out.below hb)
      replace H4 := Lib.hid (H4.out.below hb)
      replace H5 := Lib.hid (H5.out.below hb)
      replace H6 := Lib.hid (H6.out.below hb)
      clear hb
      go_wp2_with fail
      refine (kRefSame HH4.out _ _ _ _ _ H4.out H6.out).mono ?_
      rintro e w11 ⟨rfl, hb⟩
      have HW11 : Hid (Below w.heap.size w w11) := HW10.out.trans (hb.mono HW10.out.size)
      replace HA := Lib.hid (HA.out.below hb)
      replace HB := Lib.hid (HB.out.below hb)
      replace HR := Lib.hid (HR.out.below hb)
      replace H1 := Lib.hid (H1.out.below hb)
      replace H2 := Lib.hid (H2.out.below hb)
      replace H3 := Lib.hid (H3.out.below hb)
      replace H4 := Lib.hid (H4.out.below hb)
      replace H5 := Lib.hid (H5.out.below hb)
      replace H6 := Lib.hid (H6.out.below hb)
      clear hb
      go_wp2_with fail
      refine (KM.out _ _ _ HA.out HR.out).mono ?_
      rintro e w12 ⟨⟨⟨A7, c7, rfl, hk⟩, hh⟩, hb⟩
      have HW12 : Hid (Below w.heap.size w w12) := HW11.out.trans (hb.mono HW11.out.size)
      replace HA := Lib.hid (HA.out.below hb)
      replace HR := Lib.hid (HR.out.below hb)
      have H7 := Lib.hid hk
      have HH7 := Lib.hid hh
      clear hk hh
      clear hb
      have HR0 : Hid (rMany f (a, 0) (edits (L.take 0)) = (a, 0)) := by show _ = _; rw [List.take_zero]; exact rMany_nil _ _
      go_wp2
      go_loopw [23, 24, 25] (fun n want i wr => ∃ (k : Nat) (A0 : Option Addr) (c0 : Nat), k ≤ L.length ∧ i = .int .i64 k ∧ n = .slice A0 (rMany f (a, 0) (edits (L.take k))).1.length c0 ∧ want = .int .i64 ((rMany f (a, 0) (edits (L.take k))).2 : Int) ∧ Held1 (rMany f (a, 0) (edits (L.take k))).1 ∧
        CompsC wr A0 c0 (rMany f (a, 0) (edits (L.take k))).1 ∧ Below w12.heap.size w12 wr) (fun _ _ i _ => L.length - (intOf i).toNat)
      case atStart => exact ⟨0, A, ca, Nat.zero_le _, rfl, by rw [HR0.out], by rw [HR0.out]; rfl, by rw [HR0.out]; exact HEa.out, by rw [HR0.out]; exact HA.out, Below.refl _ _⟩
      case round =>
        obtain ⟨k, A0, c0, hk, rfl, rfl, rfl, hh, hc, hb⟩ := hrel
        have HN := Lib.hid hc
        have HHN := Lib.hid hh
        have HBEL := Lib.hid hb
        clear hh hc hb
        have HOFF : Hid ((rMany f (a, 0) (edits (L.take k))).2 ≠ 0 → (rMany f (a, 0) (edits (L.take k))).1 = m ∧ (rMany f (a, 0) (edits (L.take k))).2 = z) := fun h => by
          have e : edits L = edits (L.take k) ++ edits (L.drop k) := by rw [edits, edits, edits, ← List.map_append, List.take_append_drop]
          have hm := HMM.out
          rw [e, rMany_append, rMany_off f h] at hm
          rw [hm]
          exact ⟨rfl, rfl⟩
        have HEND : Hid (¬ k < L.length → (rMany f (a, 0) (edits (L.take k))).1 = m ∧ (rMany f (a, 0) (edits (L.take k))).2 = z) := fun h => by
          rw [List.take_of_length_le (by omega), HMM.out]
          exact ⟨rfl, rfl⟩
        have HS : Hid (∀ hlt : k < L.length, (rMany f (a, 0) (edits (L.take k))).2 = 0 → rMany f (a, 0) (edits (L.take (k + 1))) = rOver f (rMany f (a, 0) (edits (L.take k))).1 L[k].2.2) := fun hlt h => by
          rw [List.take_succ_eq_append_getElem hlt, edits, List.map_append, List.map_singleton, rMany_snoc, rManyStep, if_neg (by rw [show List.map (fun x : EditR => x.2.2) (L.take k) = edits (L.take k) from rfl, h]; simp)]
          rfl
        generalize (rMany f (a, 0) (edits (L.take k))).1 = N at HN HHN HOFF HEND HS ⊢
        generalize (rMany f (a, 0) (edits (L.take k))).2 = v2 at HOFF HEND HS ⊢
        by_cases hv : v2 = 0
        · subst hv
          by_cases hlt : k < L.length
          · obtain ⟨b0, off, rfl, _⟩ := HR.out.form (by omega)
            have hcell := ((HR.out.below HBEL.out).cell hlt).1
            have HCX := Lib.hid ((HR.out.below HBEL.out).cell hlt).2
            have HFX := Lib.hid (HHE.out _ (List.getElem_mem hlt))
            have HS2 := Lib.hid (HS.out hlt rfl)
            generalize L[k] = y at hcell HCX HFX HS2
            obtain ⟨Ay, cy, ly⟩ := y
            simp only at hcell HCX HFX HS2
            clear HS HOFF HEND
            obtain ⟨d2, q2, hd2⟩ : ∃ d q, rOver f N ly = (d, q) := ⟨_, _, rfl⟩
            rw [hd2] at HS2
            have KN := Lib.hid (fun w h1 h2 => kRefOver hd2 HHN.out HFX.out A0 c0 Ay cy w h1 h2)
            clear hd2
            go_wp2_with fail
            refine (KN.out _ HN.out HCX.out).mono ?_
            rintro e w90 ⟨⟨⟨A9, c9, rfl, hk9⟩, hh9⟩, hb9⟩
            have HB9 : Hid (Below w12.heap.size w12 w90) := HBEL.out.trans (hb9.mono HBEL.out.size)
            have HN9 := Lib.hid hk9
            have HH9 := Lib.hid hh9
            clear hk9 hh9 hb9
            go_wp2
            go_roundw
            case rel => exact ⟨k + 1, A9, c9, by omega, by go_num, by rw [HS2.out], by rw [HS2.out], by rw [HS2.out]; exact HH9.out, by rw [HS2.out]; exact HN9.out, HB9.out⟩
            case measure => simp [intOf]; omega
          · obtain ⟨e1, e2⟩ := HEND.out hlt
            subst e1 e2
            obtain ⟨w13, hwv⟩ : ∃ x, x = wr := ⟨wr, rfl⟩
            subst hwv
            have HW13 : Hid (Below w.heap.size w w13) := HW12.out.trans (HBEL.out.mono HW12.out.size)
            replace H7 := Lib.hid (H7.out.below HBEL.out)
            clear HS HOFF HEND
            go_wp2_with fail
            refine (kRefSame HH7.out _ _ _ _ _ H7.out HN.out).mono ?_
            rintro e w14 ⟨rfl, hb⟩
            have HW14 : Hid (Below w.heap.size w w14) := HW13.out.trans (hb.mono HW13.out.size)
            replace H7 := Lib.hid (H7.out.below hb)
            replace HN := Lib.hid (HN.out.below hb)
            clear hb
            go_wp2_with fail
            refine (GA.out _).mono ?_
            rintro e w15 ⟨rfl, hb⟩
            have HW15 : Hid (Below w.heap.size w w15) := HW14.out.trans (hb.mono HW14.out.size)
            replace H7 := Lib.hid (H7.out.below hb)
            replace HN := Lib.hid (HN.out.below hb)
            clear hb
            go_wp2
            go_ret
            exact ⟨rfl, HW15.out⟩
        · obtain ⟨e1, e2⟩ := HOFF.out hv
          subst e1 e2
          have q1 : ((v2 : Int) != 0) = true := bne_iff_ne.2 (by omega)
          have q2 : ((v2 : Int) == 0) = false := beq_eq_false_iff_ne.2 (by omega)
          obtain ⟨w13, hwv⟩ : ∃ x, x = wr := ⟨wr, rfl⟩
          subst hwv
          have HW13 : Hid (Below w.heap.size w w13) := HW12.out.trans (HBEL.out.mono HW12.out.size)
          replace H7 := Lib.hid (H7.out.below HBEL.out)
          clear HS HOFF HEND hv
          by_cases hlt : k < L.length
          · skip
            go_wp2_with fail
            refine (GA.out _).mono ?_
            rintro e w14 ⟨rfl, hb⟩
            have HW14 : Hid (Below w.heap.size w w14) := HW13.out.trans (hb.mono HW13.out.size)
            replace H7 := Lib.hid (H7.out.below hb)
            replace HN := Lib.hid (HN.out.below hb)
            clear hb
            go_wp2
            go_ret
            exact ⟨rfl, HW14.out⟩
          · skip
            go_wp2_with fail
            refine (GA.out _).mono ?_
            rintro e w14 ⟨rfl, hb⟩
            have HW14 : Hid (Below w.heap.size w w14) := HW13.out.trans (hb.mono HW13.out.size)
            replace H7 := Lib.hid (H7.out.below hb)
            replace HN := Lib.hid (HN.out.below hb)
            clear hb
            go_wp2
            go_ret
            exact ⟨rfl, HW14.out⟩
end Go.Proofs.Ytakdcfjlhpponaa

/- Of any two edits, each behind the other one, and one behind a row of them, are what the document says, or refused: it answers true and changes nothing. No condition. -/
namespace Go.Proofs.Ytakdcfjlhpponaa
open Go.ChangeShapes Go.WideShapes Go.ChangeAt Go.RowKit

set_option maxRecDepth 100000 in
theorem xformAsks_lifted (os : Os) (started : os.Started) (H : Type) (enc : TypeId × Value → H) :
    ReturnsInHanded {} Try.checked os 3 .any (Rows.xformAsksSpec.pre6 enc Try.prog Try.f3 Rows.xformAsksRow.domain false) (Rows.xformAsksSpec.post enc Try.prog Try.f3 false true false false) := by
  refine returnsInHanded_of_change (C := Try.checked) law_own started (by kernel_rfl) Try.func3
    (ChangeSpec.witness6 (enc := enc) (C := Try.checked) false ⟨#[], #[.slice none 0 0, .slice none 0 0, .bool false, .slice none 0 0], []⟩ 8 (by kernel_rfl) (by kernel_rfl) (by kernel_rfl) (by kernel_rfl)) ?_
  intro W base args ds gs before hval0 hW _ _
  have hval : ∀ (j : Nat) t v, Try.f3.params[j]? = some t → args[j]? = some v → Value.okWide Try.prog W .any base t v := hval0
  have hW' := hW
  obtain ⟨p, q, hA0, hV, rfl, _, _⟩ := hW
  have hlt : ∀ x ∈ p ++ q, x.block < W.heap.size := fun x hx => hW'.lt x hx
  have hA : DataW.TrodAll enc Try.prog W 0 (fun _ => true) true Try.f3.params.toList args.toList ds p := hA0
  rw [Try.params3] at hA hval
  obtain ⟨v0, v1, v2, v3, d0, d1, d2, d3, p0, p1, p2, p3, rfl, rfl, rfl, h0, h1, h2, h3⟩ := trodAll_four hA
  obtain ⟨rfl, rfl⟩ := trodVars_none hV
  obtain ⟨A0, l0, c0, rfl, hat0, hg0, hlc0, hc0⟩ := open_comps (hval 0 22 v0 rfl rfl) h0 (fun x hx => hlt x (by simp [hx]))
  have hl0 : l0.length ≤ maxLen := by omega
  obtain ⟨A1, l1, c1, rfl, hat1, hg1, hlc1, hc1⟩ := open_comps (hval 1 22 v1 rfl rfl) h1 (fun x hx => hlt x (by simp [hx]))
  have hl1 : l1.length ≤ maxLen := by omega
  obtain ⟨f2, rfl, rfl, rfl⟩ := open_bool Try.underlying4 (hval 2 4 v2 rfl rfl) h2
  obtain ⟨A3, L3, c3, rfl, hat3, hF3, hlc3, hc3⟩ := open_compss (hval 3 23 v3 rfl rfl) h3 (fun x hx => hlt x (by simp [hx]))
  have hL3 : L3.length ≤ maxLen := by omega
  clear hA0 hval0
  refine (xformAsks_any A0 l0 c0 A1 l1 c1 f2 A3 L3 c3 hl0 hg0 hl1 hg1 hF3 hL3 W ⟨hat0, hlc0⟩ ⟨hat1, hlc1⟩ hat3).mono fun e W' ⟨he, hb⟩ => ?_
  exact ⟨_, he, law_post law_laid (by kernel_rfl) (by kernel_rfl) Try.underlying4 rfl hW' rfl hb⟩

theorem xformAsks_holds : Rows.XformAsksSaid :=
  OpenClaim.holds_of_wide 3 Try.f3 rfl rfl rfl rfl rfl rfl rfl ⟨rfl, rfl, rfl, rfl, rfl⟩ rfl rfl rfl rfl rfl (by kernel_rfl) Try.func3 (by kernel_rfl)
    (of_decide_eq_true (by kernel_rfl)) (by unfold Func.isWrapper; first | (rw [if_pos (by decide +kernel)]; kernel_rfl) | (rw [if_neg (by decide +kernel)]; exact ⟨rfl, rfl⟩))
    (fun os started H enc _ => xformAsks_lifted os started H enc)
end Go.Proofs.Ytakdcfjlhpponaa
