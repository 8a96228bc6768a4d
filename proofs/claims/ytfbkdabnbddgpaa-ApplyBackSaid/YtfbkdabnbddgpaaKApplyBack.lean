/- ApplyBack holds: what was done is undone by its Undo, whose own Undo does it again; a Diff makes one text of the other one: whatever the law is called with: it answers true and changes nothing. No condition. (Merged of 2 texts.) -/
import Derived.Test.YtfbkdabnbddgpaaKAwk
import Derived.ChangeMaps5
/- ApplyBack, walked: what was done is undone by its Undo, whose own Undo does it again; a Diff makes one text of the other one. Condition: what memory may hold. -/
namespace Go.Proofs.Ytfbkdabnbddgpaa
open Go.RowKit Go.Deep

set_option maxHeartbeats 8000000 in
set_option maxRecDepth 100000 in
theorem applyBack_any (s : List Nat) (A : Option Addr) (l : List CompV) (c : Nat) (t : List Nat) (hb : ∀ x ∈ s, x < 256) (hsl : s.length ≤ maxLen) (hl : l.length ≤ maxLen) (hg : ∀ y ∈ l, y.Good) (hbt : ∀ x ∈ t, x < 256) (htl : t.length ≤ maxLen) (w : World) (hA : CompsAt w A l) :
    Calls Try.prog 4 #[.string (bstr s), .slice A l.length c, .string (bstr t)] w fun e w' => e = .returned (.bool true) ∧ Below w.heap.size w w' := by
  have hsz := bstr_size s
  have htz := bstr_size t
  unfold maxLen at hsl htl
  have GA := Lib.hid (fun w => apAwake_any w)
  have GW := Lib.hid (fun w h => alikeComps_at 3000 c hl hg w (A := A) h)
  have HA := Lib.hid hA
  clear hA
  obtain ⟨T, HT⟩ : ∃ x, Hid (compsWeight 3000 l = x) := ⟨_, rfl⟩
  rw [HT.out] at GW
  have HW0 := Lib.hid (Below.refl w.heap.size w)
  by_cases h1 : s.length ≤ 1000
  · by_cases h2 : t.length ≤ 1000
    · by_cases h3 : T ≤ 3000
      · have hs1 := weight_spec 3000 (by omega) l (by rw [HT.out]; exact h3)
        have hfl : Fine1 l := fine_of hg (by omega)
        have HB := Lib.hid hb
        have HBT := Lib.hid hbt
        have HG := Lib.hid hg
        have HL := Lib.hid hl
        have HFL := Lib.hid hfl
        have HTL : Hid (tlen l ≤ 3000) := by show _ ≤ _; omega
        have GF : Hid (∀ w, Calls Try.prog 13 #[.string (bstr s), .string (bstr t)] w fun e w' => (∃ A c, e = .returned (.tuple #[.slice A (fOut s t).length c, .int .i64 (fErr s t : Int)]) ∧ CompsAt w' A (fOut s t)) ∧ Below w.heap.size w w') := fun w => by
          refine (apDiff_any s t hb hbt (by omega) (by omega) w).mono ?_
          rintro e w' ⟨hd, hb⟩
          obtain ⟨A, c, h1, h2⟩ := hd.fn
          exact ⟨⟨A, c, h1, CellsAt.of_own h2⟩, hb⟩
        obtain ⟨hf1, hf2, hf3, hf4⟩ := fOut_fit (a := s) (b := t) (by omega) (by omega)
        have GCF := Lib.hid (fun A c w h => opCheck_any A c (fOut s t) (by unfold maxLen; omega) hf3 w h)
        have GDF : Hid (∀ A c w, CompsAt w A (fOut s t) → Calls Try.prog 9 #[.string (bstr s), .slice A (fOut s t).length c] w fun e w' => e = .returned (.tuple #[.string (bstr (dTxt s (fOut s t))), .int .i64 (dErr s (fOut s t) : Int)]) ∧ Below w.heap.size w w') := fun A c w h => by
          refine (apDo_any s A c (fOut s t) hb (by omega) (by unfold maxLen; omega) hf3 (by omega) w h).mono ?_
          rintro e w' ⟨hd, hb⟩
          exact ⟨hd.eq, hb⟩
        have GD : Hid (∀ w, CompsAt w A l → Calls Try.prog 9 #[.string (bstr s), .slice A l.length c] w fun e w' => e = .returned (.tuple #[.string (bstr (dTxt s l)), .int .i64 (dErr s l : Int)]) ∧ Below w.heap.size w w') := fun w h => by
          refine (apDo_any s A c l hb (by omega) hl hfl (by omega) w h).mono ?_
          rintro e w' ⟨hd, hb⟩
          exact ⟨hd.eq, hb⟩
        have HFD : Hid (fErr s t = 0 → rCheck (fOut s t) = 0 → dErr s (fOut s t) = 0 ∧ dTxt s (fOut s t) = t) := by
          intro h0 hz
          by_cases hv : ¬ (∃ x, V s x) ∨ ¬ ∃ y, V t y
          · rw [fErr_no hv] at h0; cases h0
          · obtain ⟨hx, hy⟩ := not_or.1 hv
            obtain ⟨x, hx⟩ := Classical.not_not.1 hx
            obtain ⟨y, hy⟩ := Classical.not_not.1 hy
            exact diff_does hx hy (by have := hx.length_le; omega) hz
        have HF02 : Hid (fErr s t = 0 ∨ fErr s t = 2) := by
          by_cases hv : ¬ (∃ x, V s x) ∨ ¬ ∃ y, V t y
          · exact .inr (fErr_no hv)
          · obtain ⟨hx, hy⟩ := not_or.1 hv
            obtain ⟨x, hx⟩ := Classical.not_not.1 hx
            obtain ⟨y, hy⟩ := Classical.not_not.1 hy
            exact .inl (fErr_yes hx hy)
        generalize fOut s t = F at GF GCF GDF HFD
        clear hf1 hf2 hf3 hf4 hb hbt hg hl hfl
        rcases HF02.out with hf0 | hf0
        · by_cases hz : rCheck F = 0
          · obtain ⟨hde, hdt⟩ := HFD.out hf0 hz
            rw [hde, hdt] at GDF
            rw [hz] at GCF
            rw [hf0] at GF
            clear hf0 hz hde hdt HF02 HFD
            by_cases hd0 : dErr s l = 0
            · have hub := undo_back hd0
              obtain ⟨ub1, ub2, ub3, ub4, ub5, vs, hv, hvn, hvl⟩ := hub
              obtain ⟨hu1, hu2, hu3, _⟩ := uOut_fit (t := s) HFL.out (by omega) (by have := HTL.out; omega)
              have hut := ub2.tlen
              have hal : (dTxt s l).length ≤ 8000 := by
                have := E_length_le4 vs
                rw [hv.bytes] at this
                omega
              have GU : Hid (∀ w, CompsAt w A l → Calls Try.prog 11 #[.string (bstr s), .slice A l.length c] w fun e w' => (∃ A c, e = .returned (.tuple #[.slice A (uOut s l).length c, .int .i64 0]) ∧ CompsAt w' A (uOut s l)) ∧ Below w.heap.size w w') := fun w h => by
                refine (apUndo_any s A c l HB.out (by omega) HL.out HFL.out (by have := HTL.out; omega) w h).mono ?_
                rintro e w' ⟨⟨A, c, h1, h2⟩, hb⟩
                rw [hd0] at h1
                exact ⟨⟨A, c, h1, CellsAt.of_own h2⟩, hb⟩
              have GD2 : Hid (∀ A c w, CompsAt w A (uOut s l) → Calls Try.prog 9 #[.string (bstr (dTxt s l)), .slice A (uOut s l).length c] w fun e w' => e = .returned (.tuple #[.string (bstr s), .int .i64 0]) ∧ Below w.heap.size w w') := fun A c w h => by
                refine (apDo_any (dTxt s l) A c (uOut s l) hv.lt (by omega) (by unfold maxLen; omega) hu3 (by omega) w h).mono ?_
                rintro e w' ⟨hd, hb⟩
                have := hd.eq
                rw [ub3, ub4] at this
                exact ⟨this, hb⟩
              have GU2 : Hid (∀ A c w, CompsAt w A (uOut s l) → Calls Try.prog 11 #[.string (bstr (dTxt s l)), .slice A (uOut s l).length c] w fun e w' => (∃ A c, e = .returned (.tuple #[.slice A l.length c, .int .i64 0]) ∧ CompsAt w' A l) ∧ Below w.heap.size w w') := fun A c w h => by
                refine (apUndo_any (dTxt s l) A c (uOut s l) hv.lt (by omega) (by unfold maxLen; omega) hu3 (by omega) w h).mono ?_
                rintro e w' ⟨⟨A, c, h1, h2⟩, hb⟩
                rw [ub3, ub5] at h1
                rw [ub5] at h2
                exact ⟨⟨A, c, h1, CellsAt.of_own h2⟩, hb⟩
              have GS : Hid (∀ A1 c1 w, CompsAt w A1 l → CompsAt w A l → Calls Try.prog 17 #[.slice A1 l.length c1, .slice A l.length c] w fun e w' => e = .returned (.bool true) ∧ Below w.heap.size w w') := fun A1 c1 w h1 h2 => by
                have := opSame_any A1 A c1 c l l HL.out HL.out HG.out HG.out w h1 h2
                rw [sameB_self] at this
                exact this
              have GO : Hid (∀ w, CompsAt w A l → Calls Try.prog 18 #[.slice A l.length c] w fun e w' => e = .returned (.int .i64 (vs.length : Int)) ∧ Below w.heap.size w w') := fun w h => by
                have := opOut_any A c l HL.out HFL.out w h
                rw [← hvn] at this
                exact this
              have GN := Lib.hid (fun w => refCount_yes hv (by omega) w)
              rw [hd0] at GD
              clear ub1 ub2 ub3 ub4 ub5 hvn hvl hu1 hu2 hu3 hut hal hv
              generalize uOut s l = U at GU GD2 GU2
              generalize bstr (dTxt s l) = D at GD GD2 GU2 GN
              generalize vs.length = n at GO GN
              go_enter Try.func4, Try.ntmps4
              go_wp2_with fail
              refine (GW.out _ HA.out).mono ?_
              rintro e w1 ⟨rfl, hb⟩
              have HW1 : Hid (Below w.heap.size w w1) := HW0.out.trans (hb.mono HW0.out.size)
              replace HA := Lib.hid (HA.out.below hb)
              clear hb
              go_wp2_with fail
              refine (GF.out _).mono ?_
              rintro e w2 ⟨⟨A1, c1, rfl, hk⟩, hb⟩
              have HW2 : Hid (Below w.heap.size w w2) := HW1.out.trans (hb.mono HW1.out.size)
              replace HA := Lib.hid (HA.out.below hb)
              have HF1 := Lib.hid hk
              clear hk
              clear hb
              go_wp2_with fail
              refine (GCF.out _ _ _ HF1.out).mono ?_
              rintro e w3 ⟨rfl, hb⟩
              have HW3 : Hid (Below w.heap.size w w3) := HW2.out.trans (hb.mono HW2.out.size)
              replace HA := Lib.hid (HA.out.below hb)
              replace HF1 := Lib.hid (HF1.out.below hb)
              clear hb
              go_wp2_with fail
              refine (GDF.out _ _ _ HF1.out).mono ?_
              rintro e w4 ⟨rfl, hb⟩
              have HW4 : Hid (Below w.heap.size w w4) := HW3.out.trans (hb.mono HW3.out.size)
              replace HA := Lib.hid (HA.out.below hb)
              replace HF1 := Lib.hid (HF1.out.below hb)
              clear hb
              go_wp2_with fail
              refine (GD.out _ HA.out).mono ?_
              rintro e w5 ⟨rfl, hb⟩
              have HW5 : Hid (Below w.heap.size w w5) := HW4.out.trans (hb.mono HW4.out.size)
              replace HA := Lib.hid (HA.out.below hb)
              replace HF1 := Lib.hid (HF1.out.below hb)
              clear hb
              go_wp2_with fail
              refine (GU.out _ HA.out).mono ?_
              rintro e w6 ⟨⟨A2, c2, rfl, hk⟩, hb⟩
              have HW6 : Hid (Below w.heap.size w w6) := HW5.out.trans (hb.mono HW5.out.size)
              replace HA := Lib.hid (HA.out.below hb)
              replace HF1 := Lib.hid (HF1.out.below hb)
              have HU1 := Lib.hid hk
              clear hk
              clear hb
              go_wp2_with fail
              refine (GD2.out _ _ _ HU1.out).mono ?_
              rintro e w7 ⟨rfl, hb⟩
              have HW7 : Hid (Below w.heap.size w w7) := HW6.out.trans (hb.mono HW6.out.size)
              replace HA := Lib.hid (HA.out.below hb)
              replace HF1 := Lib.hid (HF1.out.below hb)
              replace HU1 := Lib.hid (HU1.out.below hb)
              clear hb
              go_wp2_with fail
              refine (GU2.out _ _ _ HU1.out).mono ?_
              rintro e w8 ⟨⟨A3, c3, rfl, hk⟩, hb⟩
              have HW8 : Hid (Below w.heap.size w w8) := HW7.out.trans (hb.mono HW7.out.size)
              replace HA := Lib.hid (HA.out.below hb)
              replace HF1 := Lib.hid (HF1.out.below hb)
              replace HU1 := Lib.hid (HU1.out.below hb)
              have HV1 := Lib.hid hk
              clear hk
              clear hb
              go_wp2_with fail
              refine (GS.out _ _ _ HV1.out HA.out).mono ?_
              rintro e w9 ⟨rfl, hb⟩
              have HW9 : Hid (Below w.heap.size w w9) := HW8.out.trans (hb.mono HW8.out.size)
              replace HA := Lib.hid (HA.out.below hb)
              replace HF1 := Lib.hid (HF1.out.below hb)
              replace HU1 := Lib.hid (HU1.out.below hb)
              replace HV1 := Lib.hid (HV1.out.below hb)
              clear hb
              go_wp2_with fail
              refine (GO.out _ HA.out).mono ?_
              rintro e w10 ⟨rfl, hb⟩
              have HW10 : Hid (Below w.heap.size w w10) := HW9.out.trans (hb.mono HW9.out.size)
              replace HA := Lib.hid (HA.out.below hb)
              replace HF1 := Lib.hid (HF1.out.below hb)
              replace HU1 := Lib.hid (HU1.out.below hb)
              replace HV1 := Lib.hid (HV1.out.below hb)
              clear hb
              go_wp2_with fail
              refine (GN.out _).mono ?_
              rintro e w11 ⟨rfl, hb⟩
              have HW11 : Hid (Below w.heap.size w w11) := HW10.out.trans (hb.mono HW10.out.size)
              replace HA := Lib.hid (HA.out.below hb)
              replace HF1 := Lib.hid (HF1.out.below hb)
              replace HU1 := Lib.hid (HU1.out.below hb)
              replace HV1 := Lib.hid (HV1.out.below hb)
              clear hb
              go_wp2_with fail
              refine (GA.out _).mono ?_
              rintro e w12 ⟨rfl, hb⟩
              have HW12 : Hid (Below w.heap.size w w12) := HW11.out.trans (hb.mono HW11.out.size)
              replace HA := Lib.hid (HA.out.below hb)
              replace HF1 := Lib.hid (HF1.out.below hb)
              replace HU1 := Lib.hid (HU1.out.below hb)
              replace HV1 := Lib.hid (HV1.out.below hb)
              clear hb
              go_wp2
              go_ret
              exact ⟨rfl, HW12.out⟩
            · obtain ⟨q, HQ⟩ : ∃ q, Hid (dErr s l = q) := ⟨_, Lib.hid rfl⟩
              rw [HQ.out] at GD hd0
              have hq : ((q : Int) != 0) = true := bne_iff_ne.2 (by omega)
              generalize bstr (dTxt s l) = D at GD
              clear hd0
              go_enter Try.func4, Try.ntmps4
              go_wp2_with fail
              refine (GW.out _ HA.out).mono ?_
              rintro e w1 ⟨rfl, hb⟩
              have HW1 : Hid (Below w.heap.size w w1) := HW0.out.trans (hb.mono HW0.out.size)
              replace HA := Lib.hid (HA.out.below hb)
              clear hb
              go_wp2_with fail
              refine (GF.out _).mono ?_
              rintro e w2 ⟨⟨A1, c1, rfl, hk⟩, hb⟩
              have HW2 : Hid (Below w.heap.size w w2) := HW1.out.trans (hb.mono HW1.out.size)
              replace HA := Lib.hid (HA.out.below hb)
              have HF1 := Lib.hid hk
              clear hk
              clear hb
              go_wp2_with fail
              refine (GCF.out _ _ _ HF1.out).mono ?_
              rintro e w3 ⟨rfl, hb⟩
              have HW3 : Hid (Below w.heap.size w w3) := HW2.out.trans (hb.mono HW2.out.size)
              replace HA := Lib.hid (HA.out.below hb)
              replace HF1 := Lib.hid (HF1.out.below hb)
              clear hb
              go_wp2_with fail
              refine (GDF.out _ _ _ HF1.out).mono ?_
              rintro e w4 ⟨rfl, hb⟩
              have HW4 : Hid (Below w.heap.size w w4) := HW3.out.trans (hb.mono HW3.out.size)
              replace HA := Lib.hid (HA.out.below hb)
              replace HF1 := Lib.hid (HF1.out.below hb)
              clear hb
              go_wp2_with fail
              refine (GD.out _ HA.out).mono ?_
              rintro e w5 ⟨rfl, hb⟩
              have HW5 : Hid (Below w.heap.size w w5) := HW4.out.trans (hb.mono HW4.out.size)
              replace HA := Lib.hid (HA.out.below hb)
              replace HF1 := Lib.hid (HF1.out.below hb)
              clear hb
              go_wp2_with fail
              refine (GA.out _).mono ?_
              rintro e w6 ⟨rfl, hb⟩
              have HW6 : Hid (Below w.heap.size w w6) := HW5.out.trans (hb.mono HW5.out.size)
              replace HA := Lib.hid (HA.out.below hb)
              replace HF1 := Lib.hid (HF1.out.below hb)
              clear hb
              go_wp2
              go_ret
              exact ⟨rfl, HW6.out⟩
          · obtain ⟨r, HR⟩ : ∃ r, Hid (rCheck F = r) := ⟨_, Lib.hid rfl⟩
            rw [HR.out] at GCF hz
            rw [hf0] at GF
            have hr : ((r : Int) == 0) = false := beq_eq_false_iff_ne.2 (by omega)
            clear hf0 hz HF02 HFD
            by_cases hd0 : dErr s l = 0
            · have hub := undo_back hd0
              obtain ⟨ub1, ub2, ub3, ub4, ub5, vs, hv, hvn, hvl⟩ := hub
              obtain ⟨hu1, hu2, hu3, _⟩ := uOut_fit (t := s) HFL.out (by omega) (by have := HTL.out; omega)
              have hut := ub2.tlen
              have hal : (dTxt s l).length ≤ 8000 := by
                have := E_length_le4 vs
                rw [hv.bytes] at this
                omega
              have GU : Hid (∀ w, CompsAt w A l → Calls Try.prog 11 #[.string (bstr s), .slice A l.length c] w fun e w' => (∃ A c, e = .returned (.tuple #[.slice A (uOut s l).length c, .int .i64 0]) ∧ CompsAt w' A (uOut s l)) ∧ Below w.heap.size w w') := fun w h => by
                refine (apUndo_any s A c l HB.out (by omega) HL.out HFL.out (by have := HTL.out; omega) w h).mono ?_
                rintro e w' ⟨⟨A, c, h1, h2⟩, hb⟩
                rw [hd0] at h1
                exact ⟨⟨A, c, h1, CellsAt.of_own h2⟩, hb⟩
              have GD2 : Hid (∀ A c w, CompsAt w A (uOut s l) → Calls Try.prog 9 #[.string (bstr (dTxt s l)), .slice A (uOut s l).length c] w fun e w' => e = .returned (.tuple #[.string (bstr s), .int .i64 0]) ∧ Below w.heap.size w w') := fun A c w h => by
                refine (apDo_any (dTxt s l) A c (uOut s l) hv.lt (by omega) (by unfold maxLen; omega) hu3 (by omega) w h).mono ?_
                rintro e w' ⟨hd, hb⟩
                have := hd.eq
                rw [ub3, ub4] at this
                exact ⟨this, hb⟩
              have GU2 : Hid (∀ A c w, CompsAt w A (uOut s l) → Calls Try.prog 11 #[.string (bstr (dTxt s l)), .slice A (uOut s l).length c] w fun e w' => (∃ A c, e = .returned (.tuple #[.slice A l.length c, .int .i64 0]) ∧ CompsAt w' A l) ∧ Below w.heap.size w w') := fun A c w h => by
                refine (apUndo_any (dTxt s l) A c (uOut s l) hv.lt (by omega) (by unfold maxLen; omega) hu3 (by omega) w h).mono ?_
                rintro e w' ⟨⟨A, c, h1, h2⟩, hb⟩
                rw [ub3, ub5] at h1
                rw [ub5] at h2
                exact ⟨⟨A, c, h1, CellsAt.of_own h2⟩, hb⟩
              have GS : Hid (∀ A1 c1 w, CompsAt w A1 l → CompsAt w A l → Calls Try.prog 17 #[.slice A1 l.length c1, .slice A l.length c] w fun e w' => e = .returned (.bool true) ∧ Below w.heap.size w w') := fun A1 c1 w h1 h2 => by
                have := opSame_any A1 A c1 c l l HL.out HL.out HG.out HG.out w h1 h2
                rw [sameB_self] at this
                exact this
              have GO : Hid (∀ w, CompsAt w A l → Calls Try.prog 18 #[.slice A l.length c] w fun e w' => e = .returned (.int .i64 (vs.length : Int)) ∧ Below w.heap.size w w') := fun w h => by
                have := opOut_any A c l HL.out HFL.out w h
                rw [← hvn] at this
                exact this
              have GN := Lib.hid (fun w => refCount_yes hv (by omega) w)
              rw [hd0] at GD
              clear ub1 ub2 ub3 ub4 ub5 hvn hvl hu1 hu2 hu3 hut hal hv
              generalize uOut s l = U at GU GD2 GU2
              generalize bstr (dTxt s l) = D at GD GD2 GU2 GN
              generalize vs.length = n at GO GN
              go_enter Try.func4, Try.ntmps4
              go_wp2_with fail
              refine (GW.out _ HA.out).mono ?_
              rintro e w1 ⟨rfl, hb⟩
              have HW1 : Hid (Below w.heap.size w w1) := HW0.out.trans (hb.mono HW0.out.size)
              replace HA := Lib.hid (HA.out.below hb)
              clear hb
              go_wp2_with fail
              refine (GF.out _).mono ?_
              rintro e w2 ⟨⟨A1, c1, rfl, hk⟩, hb⟩
              have HW2 : Hid (Below w.heap.size w w2) := HW1.out.trans (hb.mono HW1.out.size)
              replace HA := Lib.hid (HA.out.below hb)
              have HF1 := Lib.hid hk
              clear hk
              clear hb
              go_wp2_with fail
              refine (GCF.out _ _ _ HF1.out).mono ?_
              rintro e w3 ⟨rfl, hb⟩
              have HW3 : Hid (Below w.heap.size w w3) := HW2.out.trans (hb.mono HW2.out.size)
              replace HA := Lib.hid (HA.out.below hb)
              replace HF1 := Lib.hid (HF1.out.below hb)
              clear hb
              go_wp2_with fail
              refine (GD.out _ HA.out).mono ?_
              rintro e w4 ⟨rfl, hb⟩
              have HW4 : Hid (Below w.heap.size w w4) := HW3.out.trans (hb.mono HW3.out.size)
              replace HA := Lib.hid (HA.out.below hb)
              replace HF1 := Lib.hid (HF1.out.below hb)
              clear hb
              go_wp2_with fail
              refine (GU.out _ HA.out).mono ?_
              rintro e w5 ⟨⟨A2, c2, rfl, hk⟩, hb⟩
              have HW5 : Hid (Below w.heap.size w w5) := HW4.out.trans (hb.mono HW4.out.size)
              replace HA := Lib.hid (HA.out.below hb)
              replace HF1 := Lib.hid (HF1.out.below hb)
              have HU1 := Lib.hid hk
              clear hk
              clear hb
              go_wp2_with fail
              refine (GD2.out _ _ _ HU1.out).mono ?_
              rintro e w6 ⟨rfl, hb⟩
              have HW6 : Hid (Below w.heap.size w w6) := HW5.out.trans (hb.mono HW5.out.size)
              replace HA := Lib.hid (HA.out.below hb)
              replace HF1 := Lib.hid (HF1.out.below hb)
              replace HU1 := Lib.hid (HU1.out.below hb)
              clear hb
              go_wp2_with fail
              refine (GU2.out _ _ _ HU1.out).mono ?_
              rintro e w7 ⟨⟨A3, c3, rfl, hk⟩, hb⟩
              have HW7 : Hid (Below w.heap.size w w7) := HW6.out.trans (hb.mono HW6.out.size)
              replace HA := Lib.hid (HA.out.below hb)
              replace HF1 := Lib.hid (HF1.out.below hb)
              replace HU1 := Lib.hid (HU1.out.below hb)
              have HV1 := Lib.hid hk
              clear hk
              clear hb
              go_wp2_with fail
              refine (GS.out _ _ _ HV1.out HA.out).mono ?_
              rintro e w8 ⟨rfl, hb⟩
              have HW8 : Hid (Below w.heap.size w w8) := HW7.out.trans (hb.mono HW7.out.size)
              replace HA := Lib.hid (HA.out.below hb)
              replace HF1 := Lib.hid (HF1.out.below hb)
              replace HU1 := Lib.hid (HU1.out.below hb)
              replace HV1 := Lib.hid (HV1.out.below hb)
              clear hb
              go_wp2_with fail
              refine (GO.out _ HA.out).mono ?_
              rintro e w9 ⟨rfl, hb⟩
              have HW9 : Hid (Below w.heap.size w w9) := HW8.out.trans (hb.mono HW8.out.size)
              replace HA := Lib.hid (HA.out.below hb)
              replace HF1 := Lib.hid (HF1.out.below hb)
              replace HU1 := Lib.hid (HU1.out.below hb)
              replace HV1 := Lib.hid (HV1.out.below hb)
              clear hb
              go_wp2_with fail
              refine (GN.out _).mono ?_
              rintro e w10 ⟨rfl, hb⟩
              have HW10 : Hid (Below w.heap.size w w10) := HW9.out.trans (hb.mono HW9.out.size)
              replace HA := Lib.hid (HA.out.below hb)
              replace HF1 := Lib.hid (HF1.out.below hb)
              replace HU1 := Lib.hid (HU1.out.below hb)
              replace HV1 := Lib.hid (HV1.out.below hb)
              clear hb
              go_wp2_with fail
              refine (GA.out _).mono ?_
              rintro e w11 ⟨rfl, hb⟩
              have HW11 : Hid (Below w.heap.size w w11) := HW10.out.trans (hb.mono HW10.out.size)
              replace HA := Lib.hid (HA.out.below hb)
              replace HF1 := Lib.hid (HF1.out.below hb)
              replace HU1 := Lib.hid (HU1.out.below hb)
              replace HV1 := Lib.hid (HV1.out.below hb)
              clear hb
              go_wp2
              go_ret
              exact ⟨rfl, HW11.out⟩
            · obtain ⟨q, HQ⟩ : ∃ q, Hid (dErr s l = q) := ⟨_, Lib.hid rfl⟩
              rw [HQ.out] at GD hd0
              have hq : ((q : Int) != 0) = true := bne_iff_ne.2 (by omega)
              generalize bstr (dTxt s l) = D at GD
              clear hd0
              go_enter Try.func4, Try.ntmps4
              go_wp2_with fail
              refine (GW.out _ HA.out).mono ?_
              rintro e w1 ⟨rfl, hb⟩
              have HW1 : Hid (Below w.heap.size w w1) := HW0.out.trans (hb.mono HW0.out.size)
              replace HA := Lib.hid (HA.out.below hb)
              clear hb
              go_wp2_with fail
              refine (GF.out _).mono ?_
              rintro e w2 ⟨⟨A1, c1, rfl, hk⟩, hb⟩
              have HW2 : Hid (Below w.heap.size w w2) := HW1.out.trans (hb.mono HW1.out.size)
              replace HA := Lib.hid (HA.out.below hb)
              have HF1 := Lib.hid hk
              clear hk
              clear hb
              go_wp2_with fail
              refine (GCF.out _ _ _ HF1.out).mono ?_
              rintro e w3 ⟨rfl, hb⟩
              have HW3 : Hid (Below w.heap.size w w3) := HW2.out.trans (hb.mono HW2.out.size)
              replace HA := Lib.hid (HA.out.below hb)
              replace HF1 := Lib.hid (HF1.out.below hb)
              clear hb
              go_wp2_with fail
              refine (GD.out _ HA.out).mono ?_
              rintro e w4 ⟨rfl, hb⟩
              have HW4 : Hid (Below w.heap.size w w4) := HW3.out.trans (hb.mono HW3.out.size)
              replace HA := Lib.hid (HA.out.below hb)
              replace HF1 := Lib.hid (HF1.out.below hb)
              clear hb
              go_wp2_with fail
              refine (GA.out _).mono ?_
              rintro e w5 ⟨rfl, hb⟩
              have HW5 : Hid (Below w.heap.size w w5) := HW4.out.trans (hb.mono HW4.out.size)
              replace HA := Lib.hid (HA.out.below hb)
              replace HF1 := Lib.hid (HF1.out.below hb)
              clear hb
              go_wp2
              go_ret
              exact ⟨rfl, HW5.out⟩
        · rw [hf0] at GF
          clear hf0 HF02 HFD
          by_cases hd0 : dErr s l = 0
          · have hub := undo_back hd0
            obtain ⟨ub1, ub2, ub3, ub4, ub5, vs, hv, hvn, hvl⟩ := hub
            obtain ⟨hu1, hu2, hu3, _⟩ := uOut_fit (t := s) HFL.out (by omega) (by have := HTL.out; omega)
            have hut := ub2.tlen
            have hal : (dTxt s l).length ≤ 8000 := by
              have := E_length_le4 vs
              rw [hv.bytes] at this
              omega
            have GU : Hid (∀ w, CompsAt w A l → Calls Try.prog 11 #[.string (bstr s), .slice A l.length c] w fun e w' => (∃ A c, e = .returned (.tuple #[.slice A (uOut s l).length c, .int .i64 0]) ∧ CompsAt w' A (uOut s l)) ∧ Below w.heap.size w w') := fun w h => by
              refine (apUndo_any s A c l HB.out (by omega) HL.out HFL.out (by have := HTL.out; omega) w h).mono ?_
              rintro e w' ⟨⟨A, c, h1, h2⟩, hb⟩
              rw [hd0] at h1
              exact ⟨⟨A, c, h1, CellsAt.of_own h2⟩, hb⟩
            have GD2 : Hid (∀ A c w, CompsAt w A (uOut s l) → Calls Try.prog 9 #[.string (bstr (dTxt s l)), .slice A (uOut s l).length c] w fun e w' => e = .returned (.tuple #[.string (bstr s), .int .i64 0]) ∧ Below w.heap.size w w') := fun A c w h => by
              refine (apDo_any (dTxt s l) A c (uOut s l) hv.lt (by omega) (by unfold maxLen; omega) hu3 (by omega) w h).mono ?_
              rintro e w' ⟨hd, hb⟩
              have := hd.eq
              rw [ub3, ub4] at this
              exact ⟨this, hb⟩
            have GU2 : Hid (∀ A c w, CompsAt w A (uOut s l) → Calls Try.prog 11 #[.string (bstr (dTxt s l)), .slice A (uOut s l).length c] w fun e w' => (∃ A c, e = .returned (.tuple #[.slice A l.length c, .int .i64 0]) ∧ CompsAt w' A l) ∧ Below w.heap.size w w') := fun A c w h => by
              refine (apUndo_any (dTxt s l) A c (uOut s l) hv.lt (by omega) (by unfold maxLen; omega) hu3 (by omega) w h).mono ?_
              rintro e w' ⟨⟨A, c, h1, h2⟩, hb⟩
              rw [ub3, ub5] at h1
              rw [ub5] at h2
              exact ⟨⟨A, c, h1, CellsAt.of_own h2⟩, hb⟩
            have GS : Hid (∀ A1 c1 w, CompsAt w A1 l → CompsAt w A l → Calls Try.prog 17 #[.slice A1 l.length c1, .slice A l.length c] w fun e w' => e = .returned (.bool true) ∧ Below w.heap.size w w') := fun A1 c1 w h1 h2 => by
              have := opSame_any A1 A c1 c l l HL.out HL.out HG.out HG.out w h1 h2
              rw [sameB_self] at this
              exact this
            have GO : Hid (∀ w, CompsAt w A l → Calls Try.prog 18 #[.slice A l.length c] w fun e w' => e = .returned (.int .i64 (vs.length : Int)) ∧ Below w.heap.size w w') := fun w h => by
              have := opOut_any A c l HL.out HFL.out w h
              rw [← hvn] at this
              exact this
            have GN := Lib.hid (fun w => refCount_yes hv (by omega) w)
            rw [hd0] at GD
            clear ub1 ub2 ub3 ub4 ub5 hvn hvl hu1 hu2 hu3 hut hal hv
            generalize uOut s l = U at GU GD2 GU2
            generalize bstr (dTxt s l) = D at GD GD2 GU2 GN
            generalize vs.length = n at GO GN
            go_enter Try.func4, Try.ntmps4
            go_wp2_with fail
            refine (GW.out _ HA.out).mono ?_
            rintro e w1 ⟨rfl, hb⟩
            have HW1 : Hid (Below w.heap.size w w1) := HW0.out.trans (hb.mono HW0.out.size)
            replace HA := Lib.hid (HA.out.below hb)
            clear hb
            go_wp2_with fail
            refine (GF.out _).mono ?_
            rintro e w2 ⟨⟨A1, c1, rfl, hk⟩, hb⟩
            have HW2 : Hid (Below w.heap.size w w2) := HW1.out.trans (hb.mono HW1.out.size)
            replace HA := Lib.hid (HA.out.below hb)
            have HF1 := Lib.hid hk
            clear hk
            clear hb
            go_wp2_with fail
            refine (GD.out _ HA.out).mono ?_
            rintro e w3 ⟨rfl, hb⟩
            have HW3 : Hid (Below w.heap.size w w3) := HW2.out.trans (hb.mono HW2.out.size)
            replace HA := Lib.hid (HA.out.below hb)
            replace HF1 := Lib.hid (HF1.out.below hb)
            clear hb
            go_wp2_with fail
            refine (GU.out _ HA.out).mono ?_
            rintro e w4 ⟨⟨A2, c2, rfl, hk⟩, hb⟩
            have HW4 : Hid (Below w.heap.size w w4) := HW3.out.trans (hb.mono HW3.out.size)
            replace HA := Lib.hid (HA.out.below hb)
            replace HF1 := Lib.hid (HF1.out.below hb)
            have HU1 := Lib.hid hk
            clear hk
            clear hb
            go_wp2_with fail
            refine (GD2.out _ _ _ HU1.out).mono ?_
            rintro e w5 ⟨rfl, hb⟩
            have HW5 : Hid (Below w.heap.size w w5) := HW4.out.trans (hb.mono HW4.out.size)
            replace HA := Lib.hid (HA.out.below hb)
            replace HF1 := Lib.hid (HF1.out.below hb)
            replace HU1 := Lib.hid (HU1.out.below hb)
            clear hb
            go_wp2_with fail
            refine (GU2.out _ _ _ HU1.out).mono ?_
            rintro e w6 ⟨⟨A3, c3, rfl, hk⟩, hb⟩
            have HW6 : Hid (Below w.heap.size w w6) := HW5.out.trans (hb.mono HW5.out.size)
            replace HA := Lib.hid (HA.out.below hb)
            replace HF1 := Lib.hid (HF1.out.below hb)
            replace HU1 := Lib.hid (HU1.out.below hb)
            have HV1 := Lib.hid hk
            clear hk
            clear hb
            go_wp2_with fail
            refine (GS.out _ _ _ HV1.out HA.out).mono ?_
            rintro e w7 ⟨rfl, hb⟩
            have HW7 : Hid (Below w.heap.size w w7) := HW6.out.trans (hb.mono HW6.out.size)
            replace HA := Lib.hid (HA.out.below hb)
            replace HF1 := Lib.hid (HF1.out.below hb)
            replace HU1 := Lib.hid (HU1.out.below hb)
            replace HV1 := Lib.hid (HV1.out.below hb)
            clear hb
            go_wp2_with fail
            refine (GO.out _ HA.out).mono ?_
            rintro e w8 ⟨rfl, hb⟩
            have HW8 : Hid (Below w.heap.size w w8) := HW7.out.trans (hb.mono HW7.out.size)
            replace HA := Lib.hid (HA.out.below hb)
            replace HF1 := Lib.hid (HF1.out.below hb)
            replace HU1 := Lib.hid (HU1.out.below hb)
            replace HV1 := Lib.hid (HV1.out.below hb)
            clear hb
            go_wp2_with fail
            refine (GN.out _).mono ?_
            rintro e w9 ⟨rfl, hb⟩
            have HW9 : Hid (Below w.heap.size w w9) := HW8.out.trans (hb.mono HW8.out.size)
            replace HA := Lib.hid (HA.out.below hb)
            replace HF1 := Lib.hid (HF1.out.below hb)
            replace HU1 := Lib.hid (HU1.out.below hb)
            replace HV1 := Lib.hid (HV1.out.below hb)
            clear hb
            go_wp2_with fail
            refine (GA.out _).mono ?_
            rintro e w10 ⟨rfl, hb⟩
            have HW10 : Hid (Below w.heap.size w w10) := HW9.out.trans (hb.mono HW9.out.size)
            replace HA := Lib.hid (HA.out.below hb)
            replace HF1 := Lib.hid (HF1.out.below hb)
            replace HU1 := Lib.hid (HU1.out.below hb)
            replace HV1 := Lib.hid (HV1.out.below hb)
            clear hb
            go_wp2
            go_ret
            exact ⟨rfl, HW10.out⟩
          · obtain ⟨q, HQ⟩ : ∃ q, Hid (dErr s l = q) := ⟨_, Lib.hid rfl⟩
            rw [HQ.out] at GD hd0
            have hq : ((q : Int) != 0) = true := bne_iff_ne.2 (by omega)
            generalize bstr (dTxt s l) = D at GD
            clear hd0
            go_enter Try.func4, Try.ntmps4
            go_wp2_with fail
            refine (GW.out _ HA.out).mono ?_
            rintro e w1 ⟨rfl, hb⟩
            have HW1 : Hid (Below w.heap.size w w1) := HW0.out.trans (hb.mono HW0.out.size)
            replace HA := Lib.hid (HA.out.below hb)
            clear hb
            go_wp2_with fail
            refine (GF.out _).mono ?_
            rintro e w2 ⟨⟨A1, c1, rfl, hk⟩, hb⟩
            have HW2 : Hid (Below w.heap.size w w2) := HW1.out.trans (hb.mono HW1.out.size)
            replace HA := Lib.hid (HA.out.below hb)
            have HF1 := Lib.hid hk
            clear hk
            clear hb
            go_wp2_with fail
            refine (GD.out _ HA.out).mono ?_
            rintro e w3 ⟨rfl, hb⟩
            have HW3 : Hid (Below w.heap.size w w3) := HW2.out.trans (hb.mono HW2.out.size)
            replace HA := Lib.hid (HA.out.below hb)
            replace HF1 := Lib.hid (HF1.out.below hb)
            clear hb
            go_wp2_with fail
            refine (GA.out _).mono ?_
            rintro e w4 ⟨rfl, hb⟩
            have HW4 : Hid (Below w.heap.size w w4) := HW3.out.trans (hb.mono HW3.out.size)
            replace HA := Lib.hid (HA.out.below hb)
            replace HF1 := Lib.hid (HF1.out.below hb)
            clear hb
            go_wp2
            go_ret
            exact ⟨rfl, HW4.out⟩
      · have h3' : 3000 < T := by omega
        clear h3
        clear hb
        go_enter Try.func4, Try.ntmps4
        go_wp2_with fail
        refine (GW.out _ HA.out).mono ?_
        rintro e w1 ⟨rfl, hb⟩
        have HW1 : Hid (Below w.heap.size w w1) := HW0.out.trans (hb.mono HW0.out.size)
        clear hb
        go_wp2_with fail
        refine (GA.out _).mono ?_
        rintro e w2 ⟨rfl, hb⟩
        have HW2 : Hid (Below w.heap.size w w2) := HW1.out.trans (hb.mono HW1.out.size)
        clear hb
        go_wp2
        go_ret
        exact ⟨rfl, HW2.out⟩
    · have h2' : 1000 < t.length := by omega
      clear h2
      clear hb
      go_enter Try.func4, Try.ntmps4
      go_wp2_with fail
      refine (GA.out _).mono ?_
      rintro e w1 ⟨rfl, hb⟩
      have HW1 : Hid (Below w.heap.size w w1) := HW0.out.trans (hb.mono HW0.out.size)
      clear hb
      go_wp2
      go_ret
      exact ⟨rfl, HW1.out⟩
  · have h1' : 1000 < s.length := by omega
    clear h1
    clear hb
    go_enter Try.func4, Try.ntmps4
    go_wp2_with fail
    refine (GA.out _).mono ?_
    rintro e w1 ⟨rfl, hb⟩
    have HW1 : Hid (Below w.heap.size w w1) := HW0.out.trans (hb.mono HW0.out.size)
    clear hb
    go_wp2
    go_ret
    exact ⟨rfl, HW1.out⟩
end Go.Proofs.Ytfbkdabnbddgpaa

/- ApplyBack holds: what was done is undone by its Undo, whose own Undo does it again; a Diff makes one text of the other one: whatever the law is called with: it answers true and changes nothing. No condition. -/
namespace Go.Proofs.Ytfbkdabnbddgpaa
open Go.ChangeShapes Go.WideShapes Go.ChangeAt Go.RowKit

set_option maxRecDepth 100000 in
theorem applyBack_lifted (os : Os) (started : os.Started) (H : Type) (enc : TypeId × Value → H) :
    ReturnsInHanded {} Try.checked os 4 .any (Rows.applyBackSpec.pre6 enc Try.prog Try.f4 Rows.applyBackRow.domain false) (Rows.applyBackSpec.post enc Try.prog Try.f4 false true false false) := by
  refine returnsInHanded_of_change (C := Try.checked) law_own started (by kernel_rfl) Try.func4
    (ChangeSpec.witness6 (enc := enc) (C := Try.checked) false ⟨#[], #[.string { data := #[] }, .slice none 0 0, .string { data := #[] }], []⟩ 8 (by kernel_rfl) (by kernel_rfl) (by kernel_rfl) (by kernel_rfl)) ?_
  intro W base args ds gs before hval0 hW _ _
  have hval : ∀ (j : Nat) t v, Try.f4.params[j]? = some t → args[j]? = some v → Value.okWide Try.prog W .any base t v := hval0
  have hW' := hW
  obtain ⟨p, q, hA0, hV, rfl, _, _⟩ := hW
  have hlt : ∀ x ∈ p ++ q, x.block < W.heap.size := fun x hx => hW'.lt x hx
  have hA : DataW.TrodAll enc Try.prog W 0 (fun _ => true) true Try.f4.params.toList args.toList ds p := hA0
  rw [Try.params4] at hA hval
  obtain ⟨v0, v1, v2, d0, d1, d2, p0, p1, p2, rfl, rfl, rfl, h0, h1, h2⟩ := trodAll_three hA
  obtain ⟨rfl, rfl⟩ := trodVars_none hV
  obtain ⟨s0, rfl, rfl, rfl, hsz0⟩ := Go.ChangeMaps.open_string Try.underlying9 (hval 0 9 v0 rfl rfl) h0
  obtain ⟨t0, hb0, rfl⟩ := bstr_any s0
  have hl0 : t0.length ≤ maxLen := by rw [bstr_size] at hsz0; exact hsz0
  obtain ⟨A1, l1, c1, rfl, hat1, hg1, hlc1, hc1⟩ := open_comps (hval 1 22 v1 rfl rfl) h1 (fun x hx => hlt x (by simp [hx]))
  have hl1 : l1.length ≤ maxLen := by omega
  obtain ⟨s2, rfl, rfl, rfl, hsz2⟩ := Go.ChangeMaps.open_string Try.underlying9 (hval 2 9 v2 rfl rfl) h2
  obtain ⟨t2, hb2, rfl⟩ := bstr_any s2
  have hl2 : t2.length ≤ maxLen := by rw [bstr_size] at hsz2; exact hsz2
  clear hA0 hval0
  refine (applyBack_any t0 A1 l1 c1 t2 hb0 hl0 hl1 hg1 hb2 hl2 W hat1).mono fun e W' ⟨he, hb⟩ => ?_
  exact ⟨_, he, law_post law_laid (by kernel_rfl) (by kernel_rfl) Try.underlying4 rfl hW' rfl hb⟩

theorem applyBack_holds : Rows.ApplyBackSaid :=
  OpenClaim.holds_of_wide 4 Try.f4 rfl rfl rfl rfl rfl rfl rfl ⟨rfl, rfl, rfl, rfl, rfl⟩ rfl rfl rfl rfl rfl (by kernel_rfl) Try.func4 (by kernel_rfl)
    (of_decide_eq_true (by kernel_rfl)) (by unfold Func.isWrapper; first | (rw [if_pos (by decide +kernel)]; kernel_rfl) | (rw [if_neg (by decide +kernel)]; exact ⟨rfl, rfl⟩))
    (fun os started H enc _ => applyBack_lifted os started H enc)
end Go.Proofs.Ytfbkdabnbddgpaa
