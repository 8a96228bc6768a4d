/- ComposeRow holds: a row of edits, all as one, does what they do one by one; in pieces, too: whatever the law is called with: it answers true and changes nothing. No condition. (Merged of 2 texts.) -/
import Derived.Test.YtoicgmfcbmjchaaKCom
import Derived.Test.YtoicgmfcbmjchaaKCs
import Derived.Test.YtoicgmfcbmjchaaKAl
import Derived.Test.YtoicgmfcbmjchaaKPt
import Derived.Test.YtoicgmfcbmjchaaKBase
import Derived.ChangeMaps5
/- ComposeRow, walked: a row of edits, all as one, does what they do one by one; in pieces, too. Condition: what memory may hold. -/
namespace Go.Proofs.Ytoicgmfcbmjchaa
open Go.RowKit Go.Deep

/-- A text through a row of edits. -/
noncomputable def chainE (l : List (List CompV)) (vs : List Nat) : List Nat := l.foldl (fun v e => ed e v) vs
theorem chain_nil (vs : List Nat) : chainE [] vs = vs := rfl
theorem chain_snoc (l : List (List CompV)) (e : List CompV) (vs : List Nat) : chainE (l ++ [e]) vs = ed e (chainE l vs) := by rw [chainE, List.foldl_append]; rfl
theorem chain_cut (l : List (List CompV)) (k : Nat) (vs : List Nat) : chainE (l.drop k) (chainE (l.take k) vs) = chainE l vs := by
  rw [chainE, chainE, ← List.foldl_append, List.take_append_drop]
  rfl
theorem row_all {n : Nat} {L : List (List CompV)} {D : List CompV} (hn : n ≤ 2000) (h : rAll (keepL (n : Int), 0) L = (D, 0)) : inS D = n ∧ ∀ vs : List Nat, vs.length = n → ed D vs = chainE L vs := by
  obtain ⟨k1, k2, _, k4⟩ := keep_ok hn
  obtain ⟨_, _, i3, i4⟩ := row_is L (keepL (n : Int)) k1 (by rw [h])
  rw [h] at i3 i4
  refine ⟨by rw [i3, k2], fun vs hv => ?_⟩
  rw [i4 vs (by rw [k2]; exact hv), k4 vs hv]
  rfl
theorem row_cut {s : List CompV × Nat} {L : List (List CompV)} {D : List CompV} (h : rAll s L = (D, 0)) (hD : rCheck D = 0) (k : Nat) : ∃ Da, rAll s (L.take k) = (Da, 0) ∧ Ok Da := by
  have e : rAll s L = rAll (rAll s (L.take k)) (L.drop k) := by rw [← rAll_append, List.take_append_drop]
  have h0 : (rAll s (L.take k)).2 = 0 := by
    by_cases hh : (rAll s (L.take k)).2 = 0
    · exact hh
    · rw [e, rAll_off hh] at h
      rw [h] at hh
      exact absurd rfl hh
  obtain ⟨Da, hDa⟩ : ∃ Da, rAll s (L.take k) = (Da, 0) := ⟨(rAll s (L.take k)).1, by rw [← h0]⟩
  refine ⟨Da, hDa, ?_⟩
  rw [e, hDa] at h
  cases hr : L.drop k with
  | nil =>
    rw [hr, rAll_nil] at h
    have := (Prod.mk.inj h).1
    subst this
    exact ok_of hD
  | cons y r =>
    rw [hr, rAll_cons, rAllStep, if_neg (by simp)] at h
    have h1 : (rTwo Da y).2 = 0 := by
      by_cases hh : (rTwo Da y).2 = 0
      · exact hh
      · rw [rAll_off hh] at h
        rw [h] at hh
        exact absurd rfl hh
    exact (two_no h1).1

set_option maxHeartbeats 16000000 in
set_option maxRecDepth 100000 in
theorem composeRow_any (s : List Nat) (R : Option Addr) (L : List EditR) (cr : Nat) (at_ : Int) (hsb : ∀ x ∈ s, x < 256) (hsl : s.length ≤ maxLen) (hF : FineC L) (hL : L.length ≤ maxLen) (hlc : L.length ≤ cr) (_hat : -9223372036854775808 ≤ at_ ∧ at_ ≤ 9223372036854775807) (w : World) (hR : RowsC w R L) :
    Calls Try.prog 6 #[.string (bstr s), .slice R L.length cr, .int .i64 at_] w fun e w' => e = .returned (.bool true) ∧ Below w.heap.size w w' := by
  have hsz := bstr_size s
  unfold maxLen at hsl
  have GA := Lib.hid (fun w => comAwake_any w)
  have HR := Lib.hid hR
  have HL := Lib.hid hL
  have HLC := Lib.hid hlc
  unfold maxLen at hL
  clear hR hlc _hat
  have HW0 := Lib.hid (Below.refl w.heap.size w)
  by_cases g0 : 300 < s.length
  · clear hF hsb
    go_enter Try.func6, Try.ntmps6
    go_wp2_with fail
    refine (GA.out _).mono ?_
    rintro e w1 ⟨rfl, hb⟩
    have HW1 : Hid (Below w.heap.size w w1) := HW0.out.trans (hb.mono HW0.out.size)
    clear hb
    go_wp2
    go_ret
    exact ⟨rfl, HW1.out⟩
  by_cases g1 : 8 < L.length
  · clear hF hsb
    go_enter Try.func6, Try.ntmps6
    go_wp2_with fail
    refine (GA.out _).mono ?_
    rintro e w1 ⟨rfl, hb⟩
    have HW1 : Hid (Below w.heap.size w w1) := HW0.out.trans (hb.mono HW0.out.size)
    clear hb
    go_wp2
    go_ret
    exact ⟨rfl, HW1.out⟩
  have GV := Lib.hid (fun w => refValid_any s hsb (by omega) w)
  by_cases hv0 : ∃ vs, V s vs
  · obtain ⟨vs, hv⟩ := hv0
    rw [validB_yes hv] at GV
    have GN := Lib.hid (fun w => refCount_yes hv (by omega) w)
    have hvl : vs.length ≤ 300 := by have := hv.length_le; omega
    have HV := Lib.hid hv
    have HF := Lib.hid hF
    have HSB := Lib.hid hsb
    obtain ⟨n, HN⟩ : ∃ n, Hid (vs.length = n) := ⟨_, Lib.hid rfl⟩
    rw [HN.out] at GN hvl
    clear hv hF hsb
    go_enter Try.func6, Try.ntmps6
    go_wp2_with fail
    refine (GV.out _).mono ?_
    rintro e w1 ⟨rfl, hb⟩
    have HW1 : Hid (Below w.heap.size w w1) := HW0.out.trans (hb.mono HW0.out.size)
    replace HR := Lib.hid (HR.out.below hb)
    clear hb
    go_wp2_with fail
    refine (GN.out _).mono ?_
    rintro e w2 ⟨rfl, hb⟩
    have HW2 : Hid (Below w.heap.size w w2) := HW1.out.trans (hb.mono HW1.out.size)
    replace HR := Lib.hid (HR.out.below hb)
    clear hb
    go_wp2
    go_loopw [6, 8, 9] (fun rs x i wr => ∃ k : Nat, k ≤ L.length ∧ i = .int .i64 k ∧ rs = .bool false ∧ x = .string (bstr (E (chainE ((edits L).take k) vs))) ∧ ((∀ v ∈ chainE ((edits L).take k) vs, May v) ∧ (chainE ((edits L).take k) vs).length ≤ 2000 ∧ ∀ j y, j < k → L[j]? = some y → compsWeight 500 y.2.2 ≤ 500) ∧ Below w2.heap.size w2 wr) (fun _ _ i _ => L.length - (intOf i).toNat)
    case atStart => exact ⟨0, Nat.zero_le _, rfl, rfl, by rw [List.take_zero, chain_nil, HV.out.bytes], ⟨by rw [List.take_zero, chain_nil]; exact HV.out.may, by rw [List.take_zero, chain_nil, HN.out]; omega, fun j y hj => by omega⟩, Below.refl _ _⟩
    case round =>
      obtain ⟨k, hk, rfl, rfl, rfl, hpre, hbel⟩ := hrel
      have HPRE := Lib.hid hpre
      have HBEL := Lib.hid hbel
      clear hpre hbel
      by_cases hlt : k < L.length
      · obtain ⟨b0, off, rfl, _⟩ := HR.out.form (by omega)
        obtain ⟨x0, hc0⟩ := (HR.out.below HBEL.out).cell hlt
        have HC0 := Lib.hid hc0
        have hfk := HF.out _ (List.getElem_mem hlt)
        have hgk := hfk.1
        have hlk : L[k].2.2.length ≤ maxLen := Nat.le_trans hfk.2.1 hfk.2.2
        have HGET := Lib.hid (List.getElem?_eq_getElem hlt)
        have HTK : Hid ((edits L).take (k + 1) = (edits L).take k ++ [L[k].2.2]) := by
          show _ = _
          have hle : k < (edits L).length := by rw [edits, List.length_map]; exact hlt
          rw [List.take_succ_eq_append_getElem hle]
          congr 2
          simp [edits]
        generalize L[k] = y at x0 HC0 hgk hlk HGET HTK
        obtain ⟨Ay, cy, ly⟩ := y
        simp only at x0 HC0 hgk hlk HGET HTK
        have GWk := Lib.hid (fun w h => alikeComps_c 500 cy hlk hgk w (A := Ay) h)
        obtain ⟨Tk, HTW⟩ : ∃ x, Hid (compsWeight 500 ly = x) := ⟨_, rfl⟩
        rw [HTW.out] at GWk
        have HGK := Lib.hid hgk
        clear hc0 hfk hgk hlk
        have HWK : Hid (Below w.heap.size w wr) := HW2.out.trans (HBEL.out.mono HW2.out.size)
        by_cases g4 : 500 < Tk
        · go_wp2_with fail
          refine (GWk.out _ HC0.out).mono ?_
          rintro e w3 ⟨rfl, hb⟩
          have HW3 : Hid (Below w.heap.size w w3) := HWK.out.trans (hb.mono HWK.out.size)
          clear hb
          go_wp2_with fail
          refine (GA.out _).mono ?_
          rintro e w4 ⟨rfl, hb⟩
          have HW4 : Hid (Below w.heap.size w w4) := HW3.out.trans (hb.mono HW3.out.size)
          clear hb
          go_wp2
          go_ret
          exact ⟨rfl, HW4.out⟩
        · have HHY := Lib.hid (held_of HGK.out (weight_spec 500 (by omega) ly (by rw [HTW.out]; omega)) (by omega))
          obtain ⟨ws, HWS⟩ : ∃ ws, Hid (chainE ((edits L).take k) vs = ws) := ⟨_, Lib.hid rfl⟩
          rw [HWS.out] at HPRE ⊢
          have hel := E_length_le4 ws
          have hwl := HPRE.out.2.1
          obtain ⟨X, HX⟩ : ∃ X, Hid (dTxt (E ws) ly = X) := ⟨_, Lib.hid rfl⟩
          obtain ⟨q, HQ⟩ : ∃ q, Hid (dErr (E ws) ly = q) := ⟨_, Lib.hid rfl⟩
          have KD := Lib.hid (fun A c w h => kDo HX.out HQ.out (E_lt HPRE.out.1) (by omega) HHY.out A c w h)
          clear hel hwl
          by_cases hq : q = 0
          · subst hq
            obtain ⟨hz, x', hx', hn'⟩ := dErr_zero HQ.out
            have hoky := ok_of hz
            obtain rfl := hx'.uniq (V.mk HPRE.out.1)
            have hed := dTxt_ed hz hx' hn'
            rw [HX.out] at hed
            have hbs := hoky.base
            have hlen := ed_length ly x' hoky.wh (by omega)
            have hmay := ed_may ly x' hoky.wh HPRE.out.1
            have ho1 := hoky.out1
            have HNEW : Hid (chainE ((edits L).take (k + 1)) vs = ed ly x') := by show _ = _; rw [HTK.out, chain_snoc, HWS.out]
            have HNE2 : Hid (X = E (ed ly x') ∧ (∀ v ∈ ed ly x', May v) ∧ (ed ly x').length ≤ 2000) := ⟨hed, hmay, by omega⟩
            clear hz hx' hn' hoky hed hbs hlen hmay ho1
            go_wp2_with fail
            refine (GWk.out _ HC0.out).mono ?_
            rintro e w3 ⟨rfl, hb⟩
            have HB3 : Hid (Below w2.heap.size w2 w3) := HBEL.out.trans (hb.mono HBEL.out.size)
            have HC3 := Lib.hid (HC0.out.below hb)
            have x3 : w3.cell? ⟨b0, off + k, none⟩ = some (.slice Ay ly.length cy) := by
              obtain ⟨z0, _⟩ := (HR.out.below HB3.out).cell hlt
              have hg := HGET.out
              rw [List.getElem?_eq_getElem hlt] at hg
              rw [Option.some.inj hg] at z0
              exact z0
            clear hb x0
            go_wp2_with fail
            refine (KD.out _ _ _ HC3.out).mono ?_
            rintro e w4 ⟨rfl, hb⟩
            have HB4 : Hid (Below w2.heap.size w2 w4) := HB3.out.trans (hb.mono HB3.out.size)
            clear hb x3
            go_wp2
            go_roundw
            case rel => exact ⟨k + 1, by omega, by go_num, rfl, by rw [HNEW.out, HNE2.out.1], ⟨by rw [HNEW.out]; exact HNE2.out.2.1, by rw [HNEW.out]; exact HNE2.out.2.2, fun j z hj hx => by
              rcases Nat.lt_or_ge j k with h | h
              · exact HPRE.out.2.2 j z h hx
              · have e : j = k := by omega
                subst e
                rw [HGET.out] at hx
                have e2 := Option.some.inj hx
                rw [← e2]
                show compsWeight 500 ly ≤ 500
                rw [HTW.out]
                omega⟩, HB4.out⟩
            case measure => simp [intOf]; omega
          · have hqb : ((q : Int) != 0) = true := bne_iff_ne.2 (by omega)
            clear hq
            go_wp2_with fail
            refine (GWk.out _ HC0.out).mono ?_
            rintro e w3 ⟨rfl, hb⟩
            have HW3 : Hid (Below w.heap.size w w3) := HWK.out.trans (hb.mono HWK.out.size)
            have HC3 := Lib.hid (HC0.out.below hb)
            have x3 : w3.cell? ⟨b0, off + k, none⟩ = some (.slice Ay ly.length cy) := by
              obtain ⟨z0, _⟩ := ((HR.out.below HBEL.out).below hb).cell hlt
              have hg := HGET.out
              rw [List.getElem?_eq_getElem hlt] at hg
              rw [Option.some.inj hg] at z0
              exact z0
            clear hb x0
            go_wp2_with fail
            refine (KD.out _ _ _ HC3.out).mono ?_
            rintro e w4 ⟨rfl, hb⟩
            have HW4 : Hid (Below w.heap.size w w4) := HW3.out.trans (hb.mono HW3.out.size)
            clear hb
            go_wp2_with fail
            refine (GA.out _).mono ?_
            rintro e w5 ⟨rfl, hb⟩
            have HW5 : Hid (Below w.heap.size w w5) := HW4.out.trans (hb.mono HW4.out.size)
            clear hb
            go_wp2
            go_ret
            exact ⟨rfl, HW5.out⟩
      · have hke : k = L.length := by omega
        subst hke
        have hheld : ∀ x ∈ L, Held1 x.2.2 := fun x hx => by
          obtain ⟨j, hj, he⟩ := List.getElem_of_mem hx
          exact held_of (HF.out x hx).1 (weight_spec 500 (by omega) _ (HPRE.out.2.2 j x hj (by rw [List.getElem?_eq_getElem hj, he]))) (by omega)
        have HHE := Lib.hid hheld
        have htk : (edits L).take L.length = edits L := List.take_of_length_le (by rw [edits, List.length_map]; exact Nat.le_refl _)
        rw [htk] at HPRE ⊢
        obtain ⟨w3, hw3⟩ : ∃ x, x = wr := ⟨wr, rfl⟩
        subst hw3
        have HW3 : Hid (Below w.heap.size w w3) := HW2.out.trans (HBEL.out.mono HW2.out.size)
        replace HR := Lib.hid (HR.out.below HBEL.out)
        obtain ⟨CH, HCH⟩ : ∃ x, Hid (chainE (edits L) vs = x) := ⟨_, Lib.hid rfl⟩
        rw [HCH.out] at HPRE ⊢
        obtain ⟨D, q, hD⟩ : ∃ D q, rAll (keepL (n : Int), 0) (edits L) = (D, q) := ⟨_, _, rfl⟩
        have KA := Lib.hid (fun w h => kAll hD (by unfold Fit64; omega) R cr HL.out HHE.out w h)
        have HSL : Hid (s.length ≤ 1073741824) := by show _ ≤ _; omega
        clear hheld htk
        by_cases hq : q = 0
        · subst hq
          by_cases hc : rCheck D = 0
          · have HCD := Lib.hid hc
            obtain ⟨r1, r2⟩ := row_all (by omega) hD
            have hdd := does_ok (ok_of hc) HV.out (by rw [HN.out, r1])
            rw [r2 vs HN.out, HCH.out] at hdd
            have HDD := Lib.hid hdd
            obtain ⟨k, HK⟩ : ∃ k, Hid (rnd at_ (L.length + 1) = k) := ⟨_, Lib.hid rfl⟩
            have hkl : k ≤ L.length := by have := rnd_lt at_ (show 0 < L.length + 1 by omega); have := HK.out; omega
            have GR := Lib.hid (fun w => alikeRound_any at_ (L.length + 1) (by omega) (by omega) w)
            rw [HK.out] at GR
            obtain ⟨Da, ha, hoka⟩ := row_cut hD hc k
            obtain ⟨a1, a2⟩ := row_all (by omega) ha
            have haa := a2 vs HN.out
            have hla := ed_length Da vs hoka.wh (by rw [a1, HN.out]; exact Nat.le_refl _)
            have hcap := HLC.out
            have KAa : Hid (∀ w, RowsC w R L → Calls Try.prog 11 #[.int .i64 (n : Int), .slice (addrHigh R cr) k cr] w fun e w' => ((∃ A c, e = .returned (.tuple #[.slice A Da.length c, .int .i64 ((0 : Nat) : Int)]) ∧ CompsC w' A c Da) ∧ Held1 Da) ∧ Below w.heap.size w w') := fun w h => by
              have := kAll (L := L.take k) (d := Da) (q := 0) (by rw [edits_take]; exact ha) (by unfold Fit64; omega) (addrHigh R cr) cr (by rw [List.length_take]; unfold maxLen; omega) (fun x hx => HHE.out x (List.mem_of_mem_take hx)) w (h.high cr k)
              rw [List.length_take, Nat.min_eq_left hkl] at this
              exact this
            have s1 := fun w => cut_high R L.length cr k (by omega) w
            have s2 := fun w => cut_low R L.length cr k hkl w
            obtain ⟨o, HO⟩ : ∃ o, Hid (outS Da = o) := ⟨_, Lib.hid rfl⟩
            have hro : rOut Da = (o : Int) := by rw [hoka.out, HO.out]
            have ho2 : o ≤ 2000 := by rw [← HO.out]; exact hoka.out1
            have HRO := Lib.hid hro
            obtain ⟨m, HM⟩ : ∃ m, Hid (L.length - k = m) := ⟨_, Lib.hid rfl⟩
            rw [HM.out] at s2
            obtain ⟨Db, h, hb⟩ : ∃ Db h, rAll (keepL (o : Int), 0) (edits (L.drop k)) = (Db, h) := ⟨_, _, rfl⟩
            have KAb : Hid (∀ w, RowsC w R L → Calls Try.prog 11 #[.int .i64 (o : Int), .slice (addrLow R k cr) m (cr - k)] w fun e w' => ((∃ A c, e = .returned (.tuple #[.slice A Db.length c, .int .i64 (h : Int)]) ∧ CompsC w' A c Db) ∧ Held1 Db) ∧ Below w.heap.size w w') := fun w hw => by
              have := kAll (L := L.drop k) hb (by unfold Fit64; omega) (addrLow R k cr) (cr - k) (by rw [List.length_drop]; unfold maxLen; omega) (fun x hx => HHE.out x (List.mem_of_mem_drop hx)) w (hw.low cr k hcap)
              rw [List.length_drop, HM.out] at this
              exact this
            have HCA := Lib.hid hoka.check
            by_cases hh : h = 0
            · subst hh
              by_cases hcb : rCheck Db = 0
              · have HCB := Lib.hid hcb
                rw [edits_drop] at hb
                obtain ⟨b1, b2⟩ := row_all ho2 hb
                obtain ⟨M, t1, t2, t3, t4, t5⟩ := two_is hoka (ok_of hcb) (by rw [HO.out, b1])
                have hfin : ed M vs = CH := by
                  rw [t5 vs (by rw [a1, HN.out]), b2 _ (by rw [hla, HO.out]), haa, chain_cut, HCH.out]
                have hmn : vs.length = inS M := by rw [t3, a1, HN.out]
                have HT := Lib.hid t1
                by_cases hcm : rCheck M = 0
                · have HCM := Lib.hid hcm
                  have hdm := does_ok (ok_of hcm) HV.out hmn
                  rw [hfin] at hdm
                  have HDM := Lib.hid hdm
                  clear hc hdd ha hoka a1 a2 haa hla hro hcb hb b1 b2 t1 t2 t3 t4 t5 hfin hmn hcm hdm hD r1 r2
                  go_wp2_with fail
                  refine (KA.out _ HR.out).mono ?_
                  rintro e w4 ⟨⟨⟨A1, c1, rfl, hk⟩, hh⟩, hb⟩
                  have HW4 : Hid (Below w.heap.size w w4) := HW3.out.trans (hb.mono HW3.out.size)
                  replace HR := Lib.hid (HR.out.below hb)
                  have HDA := Lib.hid hk
                  have HHD := Lib.hid hh
                  clear hk hh
                  clear hb
                  go_wp2_with fail
                  refine (kCheck HCD.out HHD.out _ _ _ HDA.out).mono ?_
                  rintro e w5 ⟨rfl, hb⟩
                  have HW5 : Hid (Below w.heap.size w w5) := HW4.out.trans (hb.mono HW4.out.size)
                  replace HR := Lib.hid (HR.out.below hb)
                  replace HDA := Lib.hid (HDA.out.below hb)
                  clear hb
                  go_wp2_with fail
                  refine (kDo HDD.out.2 HDD.out.1 HSB.out HSL.out HHD.out _ _ _ HDA.out).mono ?_
                  rintro e w6 ⟨rfl, hb⟩
                  have HW6 : Hid (Below w.heap.size w w6) := HW5.out.trans (hb.mono HW5.out.size)
                  replace HR := Lib.hid (HR.out.below hb)
                  replace HDA := Lib.hid (HDA.out.below hb)
                  clear hb
                  go_wp2_with fail
                  refine (GR.out _).mono ?_
                  rintro e wq ⟨rfl, rfl⟩
                  go_wp2_with fail
                  refine (KAa.out _ HR.out).mono ?_
                  rintro e w7 ⟨⟨⟨A2, c2, rfl, hk⟩, hh⟩, hb⟩
                  have HW7 : Hid (Below w.heap.size w w7) := HW6.out.trans (hb.mono HW6.out.size)
                  replace HR := Lib.hid (HR.out.below hb)
                  replace HDA := Lib.hid (HDA.out.below hb)
                  have HAA := Lib.hid hk
                  have HHA := Lib.hid hh
                  clear hk hh
                  clear hb
                  go_wp2
                  refine wp_region_lit [(0, true), (2, true), (3, true), (4, true), (1, false), (5, false), (6, true), (7, true), (8, true), (9, true), (10, true)] (by kernel_rfl) (by kernel_rfl) (fun _ _ d _ _ h => by cases d <;> exact h) ?_
                  simp only [picked, List.map_cons, List.map_nil, List.getElem?_cons_succ, List.getElem?_cons_zero, Option.getD_some]
                  repeat (refine wpL_quiet (by rfl) (fun K hK => ?_); go_big_quiet_op; refine hK _ ?_; clear hK K)
                  refine wpL_call (by rfl) (fun K hK => ?_)
                  go_simp
                  refine (kOut HRO.out HHA.out _ _ _ HAA.out.drew).mono ?_
                  rintro e wx ⟨rfl, hb⟩
                  have HWX : Hid (Below w.heap.size w wx) := (Below.drew HW7.out).trans (hb.mono (by have := HW7.out.size; simpa using this))
                  have hbx : Below w7.heap.size w7 wx := (Below.drew (Below.refl _ w7)).trans (hb.mono (by simp))
                  replace HR := Lib.hid (HR.out.below hbx)
                  replace HDA := Lib.hid (HDA.out.below hbx)
                  replace HAA := Lib.hid (HAA.out.below hbx)
                  refine hK _ _ hb ?_
                  clear hK K hb hbx
                  refine wpL_call (by rfl) (fun K hK => ?_)
                  go_simp
                  refine (KAb.out _ HR.out).mono ?_
                  rintro e wy ⟨⟨⟨A3, c3, rfl, hk⟩, hh⟩, hb⟩
                  have HW8 : Hid (Below w.heap.size w wy) := HWX.out.trans (hb.mono HWX.out.size)
                  replace HR := Lib.hid (HR.out.below hb)
                  replace HDA := Lib.hid (HDA.out.below hb)
                  replace HAA := Lib.hid (HAA.out.below hb)
                  have HBA := Lib.hid hk
                  have HHB := Lib.hid hh
                  clear hk hh
                  refine hK _ _ hb ?_
                  clear hK K hb
                  repeat (refine wpL_quiet (by rfl) (fun K hK => ?_); go_big_quiet_op; refine hK _ ?_; clear hK K)
                  refine wpL_nil ?_
                  go_wp2_with fail
                  refine (kCheck HCA.out HHA.out _ _ _ HAA.out).mono ?_
                  rintro e w9 ⟨rfl, hb⟩
                  have HW9 : Hid (Below w.heap.size w w9) := HW8.out.trans (hb.mono HW8.out.size)
                  replace HR := Lib.hid (HR.out.below hb)
                  replace HDA := Lib.hid (HDA.out.below hb)
                  replace HAA := Lib.hid (HAA.out.below hb)
                  replace HBA := Lib.hid (HBA.out.below hb)
                  clear hb
                  go_wp2_with fail
                  refine (kCheck HCB.out HHB.out _ _ _ HBA.out).mono ?_
                  rintro e w10 ⟨rfl, hb⟩
                  have HW10 : Hid (Below w.heap.size w w10) := HW9.out.trans (hb.mono HW9.out.size)
                  replace HR := Lib.hid (HR.out.below hb)
                  replace HDA := Lib.hid (HDA.out.below hb)
                  replace HAA := Lib.hid (HAA.out.below hb)
                  replace HBA := Lib.hid (HBA.out.below hb)
                  clear hb
                  go_wp2_with fail
                  refine (kTwo HT.out HHA.out HHB.out _ _ _ _ _ HAA.out HBA.out).mono ?_
                  rintro e w11 ⟨⟨⟨A4, c4, rfl, hk⟩, hh⟩, hb⟩
                  have HW11 : Hid (Below w.heap.size w w11) := HW10.out.trans (hb.mono HW10.out.size)
                  replace HR := Lib.hid (HR.out.below hb)
                  replace HDA := Lib.hid (HDA.out.below hb)
                  replace HAA := Lib.hid (HAA.out.below hb)
                  replace HBA := Lib.hid (HBA.out.below hb)
                  have HMA := Lib.hid hk
                  have HHM := Lib.hid hh
                  clear hk hh
                  clear hb
                  go_wp2_with fail
                  refine (kCheck HCM.out HHM.out _ _ _ HMA.out).mono ?_
                  rintro e w12 ⟨rfl, hb⟩
                  have HW12 : Hid (Below w.heap.size w w12) := HW11.out.trans (hb.mono HW11.out.size)
                  replace HR := Lib.hid (HR.out.below hb)
                  replace HDA := Lib.hid (HDA.out.below hb)
                  replace HAA := Lib.hid (HAA.out.below hb)
                  replace HBA := Lib.hid (HBA.out.below hb)
                  replace HMA := Lib.hid (HMA.out.below hb)
                  clear hb
                  go_wp2_with fail
                  refine (kDo HDM.out.2 HDM.out.1 HSB.out HSL.out HHM.out _ _ _ HMA.out).mono ?_
                  rintro e w13 ⟨rfl, hb⟩
                  have HW13 : Hid (Below w.heap.size w w13) := HW12.out.trans (hb.mono HW12.out.size)
                  replace HR := Lib.hid (HR.out.below hb)
                  replace HDA := Lib.hid (HDA.out.below hb)
                  replace HAA := Lib.hid (HAA.out.below hb)
                  replace HBA := Lib.hid (HBA.out.below hb)
                  replace HMA := Lib.hid (HMA.out.below hb)
                  clear hb
                  go_wp2_with fail
                  refine (GA.out _).mono ?_
                  rintro e w14 ⟨rfl, hb⟩
                  have HW14 : Hid (Below w.heap.size w w14) := HW13.out.trans (hb.mono HW13.out.size)
                  replace HR := Lib.hid (HR.out.below hb)
                  replace HDA := Lib.hid (HDA.out.below hb)
                  replace HAA := Lib.hid (HAA.out.below hb)
                  replace HBA := Lib.hid (HBA.out.below hb)
                  replace HMA := Lib.hid (HMA.out.below hb)
                  clear hb
                  go_wp2
                  go_ret
                  exact ⟨rfl, HW14.out⟩
                · obtain ⟨u, HU⟩ : ∃ u, Hid (rCheck M = u) := ⟨_, Lib.hid rfl⟩
                  rw [HU.out] at hcm
                  have hub : ((u : Int) != 0) = true := bne_iff_ne.2 (by omega)
                  clear hc hdd ha hoka a1 a2 haa hla hro hcb hb b1 b2 t1 t2 t3 t4 t5 hfin hmn hcm hD r1 r2
                  go_wp2_with fail
                  refine (KA.out _ HR.out).mono ?_
                  rintro e w4 ⟨⟨⟨A1, c1, rfl, hk⟩, hh⟩, hb⟩
                  have HW4 : Hid (Below w.heap.size w w4) := HW3.out.trans (hb.mono HW3.out.size)
                  replace HR := Lib.hid (HR.out.below hb)
                  have HDA := Lib.hid hk
                  have HHD := Lib.hid hh
                  clear hk hh
                  clear hb
                  go_wp2_with fail
                  refine (kCheck HCD.out HHD.out _ _ _ HDA.out).mono ?_
                  rintro e w5 ⟨rfl, hb⟩
                  have HW5 : Hid (Below w.heap.size w w5) := HW4.out.trans (hb.mono HW4.out.size)
                  replace HR := Lib.hid (HR.out.below hb)
                  replace HDA := Lib.hid (HDA.out.below hb)
                  clear hb
                  go_wp2_with fail
                  refine (kDo HDD.out.2 HDD.out.1 HSB.out HSL.out HHD.out _ _ _ HDA.out).mono ?_
                  rintro e w6 ⟨rfl, hb⟩
                  have HW6 : Hid (Below w.heap.size w w6) := HW5.out.trans (hb.mono HW5.out.size)
                  replace HR := Lib.hid (HR.out.below hb)
                  replace HDA := Lib.hid (HDA.out.below hb)
                  clear hb
                  go_wp2_with fail
                  refine (GR.out _).mono ?_
                  rintro e wq ⟨rfl, rfl⟩
                  go_wp2_with fail
                  refine (KAa.out _ HR.out).mono ?_
                  rintro e w7 ⟨⟨⟨A2, c2, rfl, hk⟩, hh⟩, hb⟩
                  have HW7 : Hid (Below w.heap.size w w7) := HW6.out.trans (hb.mono HW6.out.size)
                  replace HR := Lib.hid (HR.out.below hb)
                  replace HDA := Lib.hid (HDA.out.below hb)
                  have HAA := Lib.hid hk
                  have HHA := Lib.hid hh
                  clear hk hh
                  clear hb
                  go_wp2
                  refine wp_region_lit [(0, true), (2, true), (3, true), (4, true), (1, false), (5, false), (6, true), (7, true), (8, true), (9, true), (10, true)] (by kernel_rfl) (by kernel_rfl) (fun _ _ d _ _ h => by cases d <;> exact h) ?_
                  simp only [picked, List.map_cons, List.map_nil, List.getElem?_cons_succ, List.getElem?_cons_zero, Option.getD_some]
                  repeat (refine wpL_quiet (by rfl) (fun K hK => ?_); go_big_quiet_op; refine hK _ ?_; clear hK K)
                  refine wpL_call (by rfl) (fun K hK => ?_)
                  go_simp
                  refine (kOut HRO.out HHA.out _ _ _ HAA.out.drew).mono ?_
                  rintro e wx ⟨rfl, hb⟩
                  have HWX : Hid (Below w.heap.size w wx) := (Below.drew HW7.out).trans (hb.mono (by have := HW7.out.size; simpa using this))
                  have hbx : Below w7.heap.size w7 wx := (Below.drew (Below.refl _ w7)).trans (hb.mono (by simp))
                  replace HR := Lib.hid (HR.out.below hbx)
                  replace HDA := Lib.hid (HDA.out.below hbx)
                  replace HAA := Lib.hid (HAA.out.below hbx)
                  refine hK _ _ hb ?_
                  clear hK K hb hbx
                  refine wpL_call (by rfl) (fun K hK => ?_)
                  go_simp
                  refine (KAb.out _ HR.out).mono ?_
                  rintro e wy ⟨⟨⟨A3, c3, rfl, hk⟩, hh⟩, hb⟩
                  have HW8 : Hid (Below w.heap.size w wy) := HWX.out.trans (hb.mono HWX.out.size)
                  replace HR := Lib.hid (HR.out.below hb)
                  replace HDA := Lib.hid (HDA.out.below hb)
                  replace HAA := Lib.hid (HAA.out.below hb)
                  have HBA := Lib.hid hk
                  have HHB := Lib.hid hh
                  clear hk hh
                  refine hK _ _ hb ?_
                  clear hK K hb
                  repeat (refine wpL_quiet (by rfl) (fun K hK => ?_); go_big_quiet_op; refine hK _ ?_; clear hK K)
                  refine wpL_nil ?_
                  go_wp2_with fail
                  refine (kCheck HCA.out HHA.out _ _ _ HAA.out).mono ?_
                  rintro e w9 ⟨rfl, hb⟩
                  have HW9 : Hid (Below w.heap.size w w9) := HW8.out.trans (hb.mono HW8.out.size)
                  replace HR := Lib.hid (HR.out.below hb)
                  replace HDA := Lib.hid (HDA.out.below hb)
                  replace HAA := Lib.hid (HAA.out.below hb)
                  replace HBA := Lib.hid (HBA.out.below hb)
                  clear hb
                  go_wp2_with fail
                  refine (kCheck HCB.out HHB.out _ _ _ HBA.out).mono ?_
                  rintro e w10 ⟨rfl, hb⟩
                  have HW10 : Hid (Below w.heap.size w w10) := HW9.out.trans (hb.mono HW9.out.size)
                  replace HR := Lib.hid (HR.out.below hb)
                  replace HDA := Lib.hid (HDA.out.below hb)
                  replace HAA := Lib.hid (HAA.out.below hb)
                  replace HBA := Lib.hid (HBA.out.below hb)
                  clear hb
                  go_wp2_with fail
                  refine (kTwo HT.out HHA.out HHB.out _ _ _ _ _ HAA.out HBA.out).mono ?_
                  rintro e w11 ⟨⟨⟨A4, c4, rfl, hk⟩, hh⟩, hb⟩
                  have HW11 : Hid (Below w.heap.size w w11) := HW10.out.trans (hb.mono HW10.out.size)
                  replace HR := Lib.hid (HR.out.below hb)
                  replace HDA := Lib.hid (HDA.out.below hb)
                  replace HAA := Lib.hid (HAA.out.below hb)
                  replace HBA := Lib.hid (HBA.out.below hb)
                  have HMA := Lib.hid hk
                  have HHM := Lib.hid hh
                  clear hk hh
                  clear hb
                  go_wp2_with fail
                  refine (kCheck HU.out HHM.out _ _ _ HMA.out).mono ?_
                  rintro e w12 ⟨rfl, hb⟩
                  have HW12 : Hid (Below w.heap.size w w12) := HW11.out.trans (hb.mono HW11.out.size)
                  replace HR := Lib.hid (HR.out.below hb)
                  replace HDA := Lib.hid (HDA.out.below hb)
                  replace HAA := Lib.hid (HAA.out.below hb)
                  replace HBA := Lib.hid (HBA.out.below hb)
                  replace HMA := Lib.hid (HMA.out.below hb)
                  clear hb
                  go_wp2_with fail
                  refine (GA.out _).mono ?_
                  rintro e w13 ⟨rfl, hb⟩
                  have HW13 : Hid (Below w.heap.size w w13) := HW12.out.trans (hb.mono HW12.out.size)
                  replace HR := Lib.hid (HR.out.below hb)
                  replace HDA := Lib.hid (HDA.out.below hb)
                  replace HAA := Lib.hid (HAA.out.below hb)
                  replace HBA := Lib.hid (HBA.out.below hb)
                  replace HMA := Lib.hid (HMA.out.below hb)
                  clear hb
                  go_wp2
                  go_ret
                  exact ⟨rfl, HW13.out⟩
              · obtain ⟨u, HU⟩ : ∃ u, Hid (rCheck Db = u) := ⟨_, Lib.hid rfl⟩
                rw [HU.out] at hcb
                have hub : ((u : Int) != 0) = true := bne_iff_ne.2 (by omega)
                clear hc hdd ha hoka a1 a2 haa hla hro hcb hb hD r1 r2
                go_wp2_with fail
                refine (KA.out _ HR.out).mono ?_
                rintro e w4 ⟨⟨⟨A1, c1, rfl, hk⟩, hh⟩, hb⟩
                have HW4 : Hid (Below w.heap.size w w4) := HW3.out.trans (hb.mono HW3.out.size)
                replace HR := Lib.hid (HR.out.below hb)
                have HDA := Lib.hid hk
                have HHD := Lib.hid hh
                clear hk hh
                clear hb
                go_wp2_with fail
                refine (kCheck HCD.out HHD.out _ _ _ HDA.out).mono ?_
                rintro e w5 ⟨rfl, hb⟩
                have HW5 : Hid (Below w.heap.size w w5) := HW4.out.trans (hb.mono HW4.out.size)
                replace HR := Lib.hid (HR.out.below hb)
                replace HDA := Lib.hid (HDA.out.below hb)
                clear hb
                go_wp2_with fail
                refine (kDo HDD.out.2 HDD.out.1 HSB.out HSL.out HHD.out _ _ _ HDA.out).mono ?_
                rintro e w6 ⟨rfl, hb⟩
                have HW6 : Hid (Below w.heap.size w w6) := HW5.out.trans (hb.mono HW5.out.size)
                replace HR := Lib.hid (HR.out.below hb)
                replace HDA := Lib.hid (HDA.out.below hb)
                clear hb
                go_wp2_with fail
                refine (GR.out _).mono ?_
                rintro e wq ⟨rfl, rfl⟩
                go_wp2_with fail
                refine (KAa.out _ HR.out).mono ?_
                rintro e w7 ⟨⟨⟨A2, c2, rfl, hk⟩, hh⟩, hb⟩
                have HW7 : Hid (Below w.heap.size w w7) := HW6.out.trans (hb.mono HW6.out.size)
                replace HR := Lib.hid (HR.out.below hb)
                replace HDA := Lib.hid (HDA.out.below hb)
                have HAA := Lib.hid hk
                have HHA := Lib.hid hh
                clear hk hh
                clear hb
                go_wp2
                refine wp_region_lit [(0, true), (2, true), (3, true), (4, true), (1, false), (5, false), (6, true), (7, true), (8, true), (9, true), (10, true)] (by kernel_rfl) (by kernel_rfl) (fun _ _ d _ _ h => by cases d <;> exact h) ?_
                simp only [picked, List.map_cons, List.map_nil, List.getElem?_cons_succ, List.getElem?_cons_zero, Option.getD_some]
                repeat (refine wpL_quiet (by rfl) (fun K hK => ?_); go_big_quiet_op; refine hK _ ?_; clear hK K)
                refine wpL_call (by rfl) (fun K hK => ?_)
                go_simp
                refine (kOut HRO.out HHA.out _ _ _ HAA.out.drew).mono ?_
                rintro e wx ⟨rfl, hb⟩
                have HWX : Hid (Below w.heap.size w wx) := (Below.drew HW7.out).trans (hb.mono (by have := HW7.out.size; simpa using this))
                have hbx : Below w7.heap.size w7 wx := (Below.drew (Below.refl _ w7)).trans (hb.mono (by simp))
                replace HR := Lib.hid (HR.out.below hbx)
                replace HDA := Lib.hid (HDA.out.below hbx)
                replace HAA := Lib.hid (HAA.out.below hbx)
                refine hK _ _ hb ?_
                clear hK K hb hbx
                refine wpL_call (by rfl) (fun K hK => ?_)
                go_simp
                refine (KAb.out _ HR.out).mono ?_
                rintro e wy ⟨⟨⟨A3, c3, rfl, hk⟩, hh⟩, hb⟩
                have HW8 : Hid (Below w.heap.size w wy) := HWX.out.trans (hb.mono HWX.out.size)
                replace HR := Lib.hid (HR.out.below hb)
                replace HDA := Lib.hid (HDA.out.below hb)
                replace HAA := Lib.hid (HAA.out.below hb)
                have HBA := Lib.hid hk
                have HHB := Lib.hid hh
                clear hk hh
                refine hK _ _ hb ?_
                clear hK K hb
                repeat (refine wpL_quiet (by rfl) (fun K hK => ?_); go_big_quiet_op; refine hK _ ?_; clear hK K)
                refine wpL_nil ?_
                go_wp2_with fail
                refine (kCheck HCA.out HHA.out _ _ _ HAA.out).mono ?_
                rintro e w9 ⟨rfl, hb⟩
                have HW9 : Hid (Below w.heap.size w w9) := HW8.out.trans (hb.mono HW8.out.size)
                replace HR := Lib.hid (HR.out.below hb)
                replace HDA := Lib.hid (HDA.out.below hb)
                replace HAA := Lib.hid (HAA.out.below hb)
                replace HBA := Lib.hid (HBA.out.below hb)
                clear hb
                go_wp2_with fail
                refine (kCheck HU.out HHB.out _ _ _ HBA.out).mono ?_
                rintro e w10 ⟨rfl, hb⟩
                have HW10 : Hid (Below w.heap.size w w10) := HW9.out.trans (hb.mono HW9.out.size)
                replace HR := Lib.hid (HR.out.below hb)
                replace HDA := Lib.hid (HDA.out.below hb)
                replace HAA := Lib.hid (HAA.out.below hb)
                replace HBA := Lib.hid (HBA.out.below hb)
                clear hb
                go_wp2_with fail
                refine (GA.out _).mono ?_
                rintro e w11 ⟨rfl, hb⟩
                have HW11 : Hid (Below w.heap.size w w11) := HW10.out.trans (hb.mono HW10.out.size)
                replace HR := Lib.hid (HR.out.below hb)
                replace HDA := Lib.hid (HDA.out.below hb)
                replace HAA := Lib.hid (HAA.out.below hb)
                replace HBA := Lib.hid (HBA.out.below hb)
                clear hb
                go_wp2
                go_ret
                exact ⟨rfl, HW11.out⟩
            · have hhb : ((h : Int) != 0) = true := bne_iff_ne.2 (by omega)
              clear hc hdd ha hoka a1 a2 haa hla hro hb hh hD r1 r2
              go_wp2_with fail
              refine (KA.out _ HR.out).mono ?_
              rintro e w4 ⟨⟨⟨A1, c1, rfl, hk⟩, hh⟩, hb⟩
              have HW4 : Hid (Below w.heap.size w w4) := HW3.out.trans (hb.mono HW3.out.size)
              replace HR := Lib.hid (HR.out.below hb)
              have HDA := Lib.hid hk
              have HHD := Lib.hid hh
              clear hk hh
              clear hb
              go_wp2_with fail
              refine (kCheck HCD.out HHD.out _ _ _ HDA.out).mono ?_
              rintro e w5 ⟨rfl, hb⟩
              have HW5 : Hid (Below w.heap.size w w5) := HW4.out.trans (hb.mono HW4.out.size)
              replace HR := Lib.hid (HR.out.below hb)
              replace HDA := Lib.hid (HDA.out.below hb)
              clear hb
              go_wp2_with fail
              refine (kDo HDD.out.2 HDD.out.1 HSB.out HSL.out HHD.out _ _ _ HDA.out).mono ?_
              rintro e w6 ⟨rfl, hb⟩
              have HW6 : Hid (Below w.heap.size w w6) := HW5.out.trans (hb.mono HW5.out.size)
              replace HR := Lib.hid (HR.out.below hb)
              replace HDA := Lib.hid (HDA.out.below hb)
              clear hb
              go_wp2_with fail
              refine (GR.out _).mono ?_
              rintro e wq ⟨rfl, rfl⟩
              go_wp2_with fail
              refine (KAa.out _ HR.out).mono ?_
              rintro e w7 ⟨⟨⟨A2, c2, rfl, hk⟩, hh⟩, hb⟩
              have HW7 : Hid (Below w.heap.size w w7) := HW6.out.trans (hb.mono HW6.out.size)
              replace HR := Lib.hid (HR.out.below hb)
              replace HDA := Lib.hid (HDA.out.below hb)
              have HAA := Lib.hid hk
              have HHA := Lib.hid hh
              clear hk hh
              clear hb
              go_wp2
              refine wp_region_lit [(0, true), (2, true), (3, true), (4, true), (1, false), (5, false), (6, true), (7, true), (8, true), (9, true), (10, true)] (by kernel_rfl) (by kernel_rfl) (fun _ _ d _ _ h => by cases d <;> exact h) ?_
              simp only [picked, List.map_cons, List.map_nil, List.getElem?_cons_succ, List.getElem?_cons_zero, Option.getD_some]
              repeat (refine wpL_quiet (by rfl) (fun K hK => ?_); go_big_quiet_op; refine hK _ ?_; clear hK K)
              refine wpL_call (by rfl) (fun K hK => ?_)
              go_simp
              refine (kOut HRO.out HHA.out _ _ _ HAA.out.drew).mono ?_
              rintro e wx ⟨rfl, hb⟩
              have HWX : Hid (Below w.heap.size w wx) := (Below.drew HW7.out).trans (hb.mono (by have := HW7.out.size; simpa using this))
              have hbx : Below w7.heap.size w7 wx := (Below.drew (Below.refl _ w7)).trans (hb.mono (by simp))
              replace HR := Lib.hid (HR.out.below hbx)
              replace HDA := Lib.hid (HDA.out.below hbx)
              replace HAA := Lib.hid (HAA.out.below hbx)
              refine hK _ _ hb ?_
              clear hK K hb hbx
              refine wpL_call (by rfl) (fun K hK => ?_)
              go_simp
              refine (KAb.out _ HR.out).mono ?_
              rintro e wy ⟨⟨⟨A3, c3, rfl, hk⟩, hh⟩, hb⟩
              have HW8 : Hid (Below w.heap.size w wy) := HWX.out.trans (hb.mono HWX.out.size)
              replace HR := Lib.hid (HR.out.below hb)
              replace HDA := Lib.hid (HDA.out.below hb)
              replace HAA := Lib.hid (HAA.out.below hb)
              have HBA := Lib.hid hk
              have HHB := Lib.hid hh
              clear hk hh
              refine hK _ _ hb ?_
              clear hK K hb
              repeat (refine wpL_quiet (by rfl) (fun K hK => ?_); go_big_quiet_op; refine hK _ ?_; clear hK K)
              refine wpL_nil ?_
              go_wp2_with fail
              refine (GA.out _).mono ?_
              rintro e w9 ⟨rfl, hb⟩
              have HW9 : Hid (Below w.heap.size w w9) := HW8.out.trans (hb.mono HW8.out.size)
              replace HR := Lib.hid (HR.out.below hb)
              replace HDA := Lib.hid (HDA.out.below hb)
              replace HAA := Lib.hid (HAA.out.below hb)
              replace HBA := Lib.hid (HBA.out.below hb)
              clear hb
              go_wp2
              go_ret
              exact ⟨rfl, HW9.out⟩
          · obtain ⟨u, HU⟩ : ∃ u, Hid (rCheck D = u) := ⟨_, Lib.hid rfl⟩
            rw [HU.out] at hc
            have hub : ((u : Int) != 0) = true := bne_iff_ne.2 (by omega)
            clear hc hD
            go_wp2_with fail
            refine (KA.out _ HR.out).mono ?_
            rintro e w4 ⟨⟨⟨A1, c1, rfl, hk⟩, hh⟩, hb⟩
            have HW4 : Hid (Below w.heap.size w w4) := HW3.out.trans (hb.mono HW3.out.size)
            replace HR := Lib.hid (HR.out.below hb)
            have HDA := Lib.hid hk
            have HHD := Lib.hid hh
            clear hk hh
            clear hb
            go_wp2_with fail
            refine (kCheck HU.out HHD.out _ _ _ HDA.out).mono ?_
            rintro e w5 ⟨rfl, hb⟩
            have HW5 : Hid (Below w.heap.size w w5) := HW4.out.trans (hb.mono HW4.out.size)
            replace HR := Lib.hid (HR.out.below hb)
            replace HDA := Lib.hid (HDA.out.below hb)
            clear hb
            go_wp2_with fail
            refine (GA.out _).mono ?_
            rintro e w6 ⟨rfl, hb⟩
            have HW6 : Hid (Below w.heap.size w w6) := HW5.out.trans (hb.mono HW5.out.size)
            replace HR := Lib.hid (HR.out.below hb)
            replace HDA := Lib.hid (HDA.out.below hb)
            clear hb
            go_wp2
            go_ret
            exact ⟨rfl, HW6.out⟩
        · have hqb : ((q : Int) != 0) = true := bne_iff_ne.2 (by omega)
          clear hq hD
          go_wp2_with fail
          refine (KA.out _ HR.out).mono ?_
          rintro e w4 ⟨⟨⟨A1, c1, rfl, hk⟩, hh⟩, hb⟩
          have HW4 : Hid (Below w.heap.size w w4) := HW3.out.trans (hb.mono HW3.out.size)
          replace HR := Lib.hid (HR.out.below hb)
          have HDA := Lib.hid hk
          have HHD := Lib.hid hh
          clear hk hh
          clear hb
          go_wp2_with fail
          refine (GA.out _).mono ?_
          rintro e w5 ⟨rfl, hb⟩
          have HW5 : Hid (Below w.heap.size w w5) := HW4.out.trans (hb.mono HW4.out.size)
          replace HR := Lib.hid (HR.out.below hb)
          replace HDA := Lib.hid (HDA.out.below hb)
          clear hb
          go_wp2
          go_ret
          exact ⟨rfl, HW5.out⟩
  · rw [validB_no hv0] at GV
    clear hv0 hF hsb
    go_enter Try.func6, Try.ntmps6
    go_wp2_with fail
    refine (GV.out _).mono ?_
    rintro e w1 ⟨rfl, hb⟩
    have HW1 : Hid (Below w.heap.size w w1) := HW0.out.trans (hb.mono HW0.out.size)
    clear hb
    go_wp2_with fail
    refine (GA.out _).mono ?_
    rintro e w2 ⟨rfl, hb⟩
    have HW2 : Hid (Below w.heap.size w w2) := HW1.out.trans (hb.mono HW1.out.size)
    clear hb
    go_wp2
    go_ret
    exact ⟨rfl, HW2.out⟩
end Go.Proofs.Ytoicgmfcbmjchaa

/- ComposeRow holds: a row of edits, all as one, does what they do one by one; in pieces, too: whatever the law is called with: it answers true and changes nothing. No condition. -/
namespace Go.Proofs.Ytoicgmfcbmjchaa
open Go.ChangeShapes Go.WideShapes Go.ChangeAt Go.RowKit

set_option maxRecDepth 100000 in
theorem composeRow_lifted (os : Os) (started : os.Started) (H : Type) (enc : TypeId × Value → H) :
    ReturnsInHanded {} Try.checked os 6 .any (Rows.composeRowSpec.pre6 enc Try.prog Try.f6 Rows.composeRowRow.domain false) (Rows.composeRowSpec.post enc Try.prog Try.f6 false true false false) := by
  refine returnsInHanded_of_change (C := Try.checked) law_own started (by kernel_rfl) Try.func6
    (ChangeSpec.witness6 (enc := enc) (C := Try.checked) false ⟨#[], #[.string { data := #[] }, .slice none 0 0, .int .i64 0], []⟩ 8 (by kernel_rfl) (by kernel_rfl) (by kernel_rfl) (by kernel_rfl)) ?_
  intro W base args ds gs before hval0 hW _ _
  have hval : ∀ (j : Nat) t v, Try.f6.params[j]? = some t → args[j]? = some v → Value.okWide Try.prog W .any base t v := hval0
  have hW' := hW
  obtain ⟨p, q, hA0, hV, rfl, _, _⟩ := hW
  have hlt : ∀ x ∈ p ++ q, x.block < W.heap.size := fun x hx => hW'.lt x hx
  have hA : DataW.TrodAll enc Try.prog W 0 (fun _ => true) true Try.f6.params.toList args.toList ds p := hA0
  rw [Try.params6] at hA hval
  obtain ⟨v0, v1, v2, d0, d1, d2, p0, p1, p2, rfl, rfl, rfl, h0, h1, h2⟩ := trodAll_three hA
  obtain ⟨rfl, rfl⟩ := trodVars_none hV
  obtain ⟨s0, rfl, rfl, rfl, hsz0⟩ := Go.ChangeMaps.open_string Try.underlying9 (hval 0 9 v0 rfl rfl) h0
  obtain ⟨t0, hb0, rfl⟩ := bstr_any s0
  have hl0 : t0.length ≤ maxLen := by rw [bstr_size] at hsz0; exact hsz0
  obtain ⟨A1, L1, c1, rfl, hat1, hF1, hlc1, hc1⟩ := open_compss (hval 1 23 v1 rfl rfl) h1 (fun x hx => hlt x (by simp [hx]))
  have hL1 : L1.length ≤ maxLen := by omega
  obtain ⟨n2, rfl, rfl, rfl, hw2⟩ := open_int Try.underlying3 (hval 2 3 v2 rfl rfl) h2
  have hn2 : -9223372036854775808 ≤ n2 ∧ n2 ≤ 9223372036854775807 := by simpa [Lit.wf, IntKind.min, IntKind.max, IntKind.signed, IntKind.bits] using hw2
  clear hA0 hval0
  refine (composeRow_any t0 A1 L1 c1 n2 hb0 hl0 hF1 hL1 hlc1 hn2 W hat1).mono fun e W' ⟨he, hb⟩ => ?_
  exact ⟨_, he, law_post law_laid (by kernel_rfl) (by kernel_rfl) Try.underlying4 rfl hW' rfl hb⟩

theorem composeRow_holds : Rows.ComposeRowSaid :=
  OpenClaim.holds_of_wide 6 Try.f6 rfl rfl rfl rfl rfl rfl rfl ⟨rfl, rfl, rfl, rfl, rfl⟩ rfl rfl rfl rfl rfl (by kernel_rfl) Try.func6 (by kernel_rfl)
    (of_decide_eq_true (by kernel_rfl)) (by unfold Func.isWrapper; first | (rw [if_pos (by decide +kernel)]; kernel_rfl) | (rw [if_neg (by decide +kernel)]; exact ⟨rfl, rfl⟩))
    (fun os started H enc _ => composeRow_lifted os started H enc)
end Go.Proofs.Ytoicgmfcbmjchaa
