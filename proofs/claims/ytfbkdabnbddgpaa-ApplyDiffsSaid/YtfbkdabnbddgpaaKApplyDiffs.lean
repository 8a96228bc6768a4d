/- ApplyDiffs holds: a Diff touches no more than what differs: what both begin and end with is kept: whatever the law is called with: it answers true and changes nothing. No condition. (Merged of 2 texts.) -/
import Derived.Test.YtfbkdabnbddgpaaKAwk
import Derived.Test.YtfbkdabnbddgpaaKDm
import Derived.ChangeMaps5
/- ApplyDiffs, walked: a Diff touches no more than what differs: what both begin and end with is kept. Condition: what memory may hold. -/
namespace Go.Proofs.Ytfbkdabnbddgpaa
open Go.RowKit Go.Deep

set_option maxHeartbeats 8000000 in
set_option maxRecDepth 100000 in
theorem applyDiffs_any (h a b t : List Nat) (hh : ∀ x ∈ h, x < 256) (hhl : h.length ≤ maxLen) (ha : ∀ x ∈ a, x < 256) (hal : a.length ≤ maxLen) (hb : ∀ x ∈ b, x < 256) (hbl : b.length ≤ maxLen) (ht : ∀ x ∈ t, x < 256) (htl : t.length ≤ maxLen) (w : World) :
    Calls Try.prog 6 #[.string (bstr h), .string (bstr a), .string (bstr b), .string (bstr t)] w fun e w' => e = .returned (.bool true) ∧ Below w.heap.size w w' := by
  have hhz := bstr_size h
  have haz := bstr_size a
  have hbz := bstr_size b
  have htz := bstr_size t
  unfold maxLen at hhl hal hbl htl
  have GA := Lib.hid (fun w => apAwake_any w)
  have GS : Hid (∀ (wq : World) (g : Nat), g = wq.heap.size → Calls Try.prog 23 #[.int .i64 (h.length : Int), .slice (some ⟨g, 0, none⟩) 3 3] (wq.alloc (.cells #[.int .i64 (a.length : Int), .int .i64 (b.length : Int), .int .i64 (t.length : Int)] 3)) fun e w' => e = .returned (.int .i64 ((capSum h.length [a.length, b.length, t.length] : Nat) : Int)) ∧ Below wq.heap.size wq w') := fun wq g hg' => by
    refine (alikeSum_row h.length (by omega) g 0 3 [a.length, b.length, t.length] (by simp [maxLen]) (by simp; omega) _ (nats_lit wq 3 #[.int .i64 (a.length : Int), .int .i64 (b.length : Int), .int .i64 (t.length : Int)] [a.length, b.length, t.length] (fun j y hj => by
      match j, hj with
      | 0, hj => cases hj; rfl
      | 1, hj => cases hj; rfl
      | 2, hj => cases hj; rfl) g hg')).mono ?_
    rintro e w' ⟨rfl, rfl⟩
    exact ⟨rfl, (Below.refl _ wq).alloc (Nat.le_refl _) _⟩
  obtain ⟨T, HT⟩ : ∃ x, Hid (capSum h.length [a.length, b.length, t.length] = x) := ⟨_, rfl⟩
  rw [HT.out] at GS
  have HW0 := Lib.hid (Below.refl w.heap.size w)
  by_cases h1 : T ≤ 600
  · have hsum : h.length + (a.length + b.length + t.length) ≤ 600 := by
      have := capSum_sum [a.length, b.length, t.length] h.length (by rw [HT.out]; omega)
      rw [HT.out] at this
      simp only [List.sum_cons, List.sum_nil] at this
      omega
    obtain ⟨S, HS⟩ : ∃ S, Hid (h ++ a ++ t = S) := ⟨_, Lib.hid rfl⟩
    obtain ⟨R, HR⟩ : ∃ R, Hid (h ++ b ++ t = R) := ⟨_, Lib.hid rfl⟩
    have hSl : S.length ≤ 600 := by rw [← HS.out]; simp only [List.length_append]; omega
    have hRl : R.length ≤ 600 := by rw [← HR.out]; simp only [List.length_append]; omega
    have hSb : ∀ x ∈ S, x < 256 := by
      rw [← HS.out]
      intro x hx
      simp only [List.mem_append] at hx
      rcases hx with (hx | hx) | hx
      · exact hh x hx
      · exact ha x hx
      · exact ht x hx
    have hRb : ∀ x ∈ R, x < 256 := by
      rw [← HR.out]
      intro x hx
      simp only [List.mem_append] at hx
      rcases hx with (hx | hx) | hx
      · exact hh x hx
      · exact hb x hx
      · exact ht x hx
    have a1 := fun w => add_bstr h a (by omega) (by omega) w
    have a2 := fun w => add_bstr (h ++ a) t (by simp; omega) (by omega) w
    have a3 := fun w => add_bstr h b (by omega) (by omega) w
    have a4 := fun w => add_bstr (h ++ b) t (by simp; omega) (by omega) w
    rw [HS.out] at a2
    rw [HR.out] at a4
    have GF : Hid (∀ w, Calls Try.prog 13 #[.string (bstr S), .string (bstr R)] w fun e w' => (∃ A c, e = .returned (.tuple #[.slice A (fOut S R).length c, .int .i64 (fErr S R : Int)]) ∧ CompsAt w' A (fOut S R)) ∧ Below w.heap.size w w') := fun w => by
      refine (apDiff_any S R hSb hRb (by omega) (by omega) w).mono ?_
      rintro e w' ⟨hd, hb⟩
      obtain ⟨A, c, h1, h2⟩ := hd.fn
      exact ⟨⟨A, c, h1, CellsAt.of_own h2⟩, hb⟩
    have GVS := Lib.hid (fun w => refValid_any S hSb (by omega) w)
    have GVR := Lib.hid (fun w => refValid_any R hRb (by omega) w)
    have GVH := Lib.hid (fun w => refValid_any h hh (by omega) w)
    have GVT := Lib.hid (fun w => refValid_any t ht (by omega) w)
    have HSB := Lib.hid hSb
    have HRB := Lib.hid hRb
    clear hh ha hb ht hSb hRb
    by_cases vS : ∃ x, V S x
    · by_cases vR : ∃ y, V R y
      · obtain ⟨x, hx⟩ := vS
        obtain ⟨y, hy⟩ := vR
        rw [validB_yes hx] at GVS
        rw [validB_yes hy] at GVR
        rw [fErr_yes hx hy] at GF
        by_cases vH : ∃ x, V h x
        · by_cases vT : ∃ x, V t x
          · obtain ⟨hv, hhv⟩ := vH
            obtain ⟨tv, htv⟩ := vT
            rw [validB_yes hhv] at GVH
            rw [validB_yes htv] at GVT
            have hxl : x.length ≤ 600 := Nat.le_trans hx.length_le hSl
            have hyl : y.length ≤ 600 := Nat.le_trans hy.length_le hRl
            obtain ⟨k1, k2, k3, k4⟩ := diff_all hx hy (by omega) (by omega)
            have hdo := diff_does hx hy (by omega) k1.check
            obtain ⟨hf1, hf2, hf3, hf4⟩ := fOut_fit (a := S) (b := R) (by omega) (by omega)
            have GD : Hid (∀ A c w, CompsAt w A (fOut S R) → Calls Try.prog 9 #[.string (bstr S), .slice A (fOut S R).length c] w fun e w' => e = .returned (.tuple #[.string (bstr R), .int .i64 0]) ∧ Below w.heap.size w w') := fun A c w h => by
              refine (apDo_any S A c (fOut S R) HSB.out (by omega) (by unfold maxLen; omega) hf3 (by omega) w h).mono ?_
              rintro e w' ⟨hd, hb⟩
              have := hd.eq
              rw [hdo.1, hdo.2] at this
              exact ⟨this, hb⟩
            have GI := Lib.hid (fun A c w h => opIdle_any A c (fOut S R) (by unfold maxLen; omega) w h)
            have HKT : Hid (∀ k, 0 ≤ keptS ((fOut S R).take k) ∧ keptS ((fOut S R).take k) ≤ 600) := fun k => by
              have h1 := kept_take k1.wh k
              have h2 := inS_take_le (fOut S R) k
              omega
            have HKA : Hid ((hv.length : Int) + tv.length ≤ keptS (fOut S R)) := by
              obtain ⟨aa, hxa⟩ := V_mid (by rw [HS.out]; exact hx) hhv htv
              obtain ⟨bb, hyb⟩ := V_mid (by rw [HR.out]; exact hy) hhv htv
              have hp := preN_pre x y
              have hs := sufN_suf x y
              have := common_kept (h := hv) (a := aa) (b := bb) (t := tv) (p := preN x y) (s := sufN x y) (by rw [← hxa, ← hyb]; exact hp) (by rw [← hxa, ← hyb]; exact hs)
              show _ ≤ _
              rw [k4]
              omega
            have GNH := Lib.hid (fun w => refCount_yes hhv (by omega) w)
            have GNT := Lib.hid (fun w => refCount_yes htv (by omega) w)
            have HID : Hid (S = R → idleB (fOut S R) = true) := fun e => by
              rw [← e]
              exact diff_idle hx (by omega)
            have h1l : hv.length ≤ 600 := Nat.le_trans hhv.length_le (by omega)
            have h2l : tv.length ≤ 600 := Nat.le_trans htv.length_le (by omega)
            clear k1 k2 k3 k4 hdo hf1 hf2 hf3 hf4 hxl hyl hx hy hhv htv
            have HFL : Hid ((fOut S R).length ≤ 1000) := Nat.le_trans (fOut_fit (a := S) (b := R) (by omega) (by omega)).2.1 (by omega)
            have hfl := HFL.out
            generalize fOut S R = F at GF GD GI HKT HKA HID HFL hfl
            generalize hv.length = nh at GNH HKA h1l
            generalize tv.length = nt at GNT HKA h2l
            go_enter Try.func6, Try.ntmps6
            go_wp2_with fail
            refine (GS.out _ _ rfl).mono ?_
            rintro e w1 ⟨rfl, hb⟩
            have HW1 : Hid (Below w.heap.size w w1) := HW0.out.trans (hb.mono HW0.out.size)
            clear hb
            go_wp2_with fail
            refine (GF.out _).mono ?_
            rintro e w2 ⟨⟨A1, c1, rfl, hk⟩, hb⟩
            have HW2 : Hid (Below w.heap.size w w2) := HW1.out.trans (hb.mono HW1.out.size)
            have HF1 := Lib.hid hk
            clear hk
            clear hb
            go_wp2_with fail
            refine (GVS.out _).mono ?_
            rintro e w3 ⟨rfl, hb⟩
            have HW3 : Hid (Below w.heap.size w w3) := HW2.out.trans (hb.mono HW2.out.size)
            replace HF1 := Lib.hid (HF1.out.below hb)
            clear hb
            go_wp2_with fail
            refine (GVR.out _).mono ?_
            rintro e w4 ⟨rfl, hb⟩
            have HW4 : Hid (Below w.heap.size w w4) := HW3.out.trans (hb.mono HW3.out.size)
            replace HF1 := Lib.hid (HF1.out.below hb)
            clear hb
            go_wp2_with fail
            refine (GVH.out _).mono ?_
            rintro e w5 ⟨rfl, hb⟩
            have HW5 : Hid (Below w.heap.size w w5) := HW4.out.trans (hb.mono HW4.out.size)
            replace HF1 := Lib.hid (HF1.out.below hb)
            clear hb
            go_wp2_with fail
            refine (GVT.out _).mono ?_
            rintro e w6 ⟨rfl, hb⟩
            have HW6 : Hid (Below w.heap.size w w6) := HW5.out.trans (hb.mono HW5.out.size)
            replace HF1 := Lib.hid (HF1.out.below hb)
            clear hb
            go_wp2
            go_loopw [13, 14] (fun q i wr => ∃ k : Nat, k ≤ F.length ∧ i = .int .i64 k ∧ q = .int .i64 (keptS (F.take k)) ∧ w6 = wr) (fun _ i _ => F.length - (intOf i).toNat)
            case atStart => exact ⟨0, Nat.zero_le _, rfl, by rw [List.take_zero]; rfl, rfl⟩
            case round =>
              obtain ⟨k, hk, rfl, rfl, rfl⟩ := hrel
              by_cases hlt : k < F.length
              · obtain ⟨b0, off, rfl, _⟩ := HF1.out.form (by omega)
                obtain ⟨x0, x1, _⟩ := HF1.out.at_ hlt
                have HSN := Lib.hid (show keptS (F.take (k + 1)) = if F[k].kind = 1 then keptS (F.take k) + F[k].n else keptS (F.take k) by rw [List.take_succ_eq_append_getElem hlt, keptS_snoc])
                obtain ⟨m, HM⟩ : ∃ m, Hid (keptS (F.take k) = m) := ⟨_, Lib.hid rfl⟩
                have hkt1 := HKT.out k
                have hkt2 := HKT.out (k + 1)
                rw [HSN.out] at hkt2
                rw [HM.out] at hkt1 hkt2 HSN ⊢
                generalize F[k] = y at x0 x1 HSN hkt2
                obtain ⟨kd, nn, tx⟩ := y
                simp only at x0 x1 hkt2
                by_cases g1 : kd = 1
                · subst g1
                  have HS2 : Hid (keptS (F.take (k + 1)) = m + nn) := by show _ = _; rw [HSN.out, if_pos rfl]
                  rw [if_pos rfl] at hkt2
                  clear HSN
                  go_wp2
                  go_roundw
                  case rel => exact ⟨k + 1, by omega, by go_num, by rw [HS2.out], trivial⟩
                  case measure => simp [intOf]; omega
                · have g2 : (kd == 1) = false := beq_eq_false_iff_ne.2 g1
                  have HS2 : Hid (keptS (F.take (k + 1)) = m) := by show _ = _; rw [HSN.out, if_neg g1]
                  clear HSN hkt2 g1
                  go_wp2
                  go_roundw
                  case rel => exact ⟨k + 1, by omega, by go_num, by rw [HS2.out], trivial⟩
                  case measure => simp [intOf]; omega
              · have hke : F.take k = F := List.take_of_length_le (by omega)
                rw [hke]
                obtain ⟨m, HM⟩ : ∃ m, Hid (keptS F = m) := ⟨_, Lib.hid rfl⟩
                rw [HM.out]
                have hka : (nh : Int) + nt ≤ m := by rw [← HM.out]; exact HKA.out
                by_cases hSR : S = R
                · have hid := HID.out hSR
                  rw [hid] at GI
                  subst hSR
                  have hne : ((bstr S).toList != (bstr S).toList) = false := bne_self_eq_false _
                  clear hid
                  go_wp2_with fail
                  refine (GD.out _ _ _ HF1.out).mono ?_
                  rintro e w7 ⟨rfl, hb⟩
                  have HW7 : Hid (Below w.heap.size w w7) := HW6.out.trans (hb.mono HW6.out.size)
                  replace HF1 := Lib.hid (HF1.out.below hb)
                  clear hb
                  go_wp2_with fail
                  refine (GNH.out _).mono ?_
                  rintro e w8 ⟨rfl, hb⟩
                  have HW8 : Hid (Below w.heap.size w w8) := HW7.out.trans (hb.mono HW7.out.size)
                  replace HF1 := Lib.hid (HF1.out.below hb)
                  clear hb
                  go_wp2_with fail
                  refine (GNT.out _).mono ?_
                  rintro e w9 ⟨rfl, hb⟩
                  have HW9 : Hid (Below w.heap.size w w9) := HW8.out.trans (hb.mono HW8.out.size)
                  replace HF1 := Lib.hid (HF1.out.below hb)
                  clear hb
                  go_wp2_with fail
                  refine (GI.out _ _ _ HF1.out).mono ?_
                  rintro e w10 ⟨rfl, hb⟩
                  have HW10 : Hid (Below w.heap.size w w10) := HW9.out.trans (hb.mono HW9.out.size)
                  replace HF1 := Lib.hid (HF1.out.below hb)
                  clear hb
                  go_wp2_with fail
                  refine (GA.out _).mono ?_
                  rintro e w11 ⟨rfl, hb⟩
                  have HW11 : Hid (Below w.heap.size w w11) := HW10.out.trans (hb.mono HW10.out.size)
                  replace HF1 := Lib.hid (HF1.out.below hb)
                  clear hb
                  go_wp2
                  go_ret
                  exact ⟨rfl, HW11.out⟩
                · have hne2 : ((bstr S).toList == (bstr R).toList) = false := bstr_neq fun h => hSR (bstr_inj _ _ HSB.out HRB.out h)
                  have hne : ((bstr S).toList != (bstr R).toList) = true := by rw [bne, hne2]; rfl
                  clear hSR
                  go_wp2_with fail
                  refine (GD.out _ _ _ HF1.out).mono ?_
                  rintro e w7 ⟨rfl, hb⟩
                  have HW7 : Hid (Below w.heap.size w w7) := HW6.out.trans (hb.mono HW6.out.size)
                  replace HF1 := Lib.hid (HF1.out.below hb)
                  clear hb
                  go_wp2_with fail
                  refine (GNH.out _).mono ?_
                  rintro e w8 ⟨rfl, hb⟩
                  have HW8 : Hid (Below w.heap.size w w8) := HW7.out.trans (hb.mono HW7.out.size)
                  replace HF1 := Lib.hid (HF1.out.below hb)
                  clear hb
                  go_wp2_with fail
                  refine (GNT.out _).mono ?_
                  rintro e w9 ⟨rfl, hb⟩
                  have HW9 : Hid (Below w.heap.size w w9) := HW8.out.trans (hb.mono HW8.out.size)
                  replace HF1 := Lib.hid (HF1.out.below hb)
                  clear hb
                  go_wp2_with fail
                  refine (GA.out _).mono ?_
                  rintro e w10 ⟨rfl, hb⟩
                  have HW10 : Hid (Below w.heap.size w w10) := HW9.out.trans (hb.mono HW9.out.size)
                  replace HF1 := Lib.hid (HF1.out.below hb)
                  clear hb
                  go_wp2
                  go_ret
                  exact ⟨rfl, HW10.out⟩
          · rw [validB_no vT] at GVT
            obtain ⟨hv, hhv⟩ := vH
            rw [validB_yes hhv] at GVH
            clear vT hhv hx hy
            go_enter Try.func6, Try.ntmps6
            go_wp2_with fail
            refine (GS.out _ _ rfl).mono ?_
            rintro e w1 ⟨rfl, hb⟩
            have HW1 : Hid (Below w.heap.size w w1) := HW0.out.trans (hb.mono HW0.out.size)
            clear hb
            go_wp2_with fail
            refine (GF.out _).mono ?_
            rintro e w2 ⟨⟨A1, c1, rfl, hk⟩, hb⟩
            have HW2 : Hid (Below w.heap.size w w2) := HW1.out.trans (hb.mono HW1.out.size)
            have HF1 := Lib.hid hk
            clear hk
            clear hb
            go_wp2_with fail
            refine (GVS.out _).mono ?_
            rintro e w3 ⟨rfl, hb⟩
            have HW3 : Hid (Below w.heap.size w w3) := HW2.out.trans (hb.mono HW2.out.size)
            replace HF1 := Lib.hid (HF1.out.below hb)
            clear hb
            go_wp2_with fail
            refine (GVR.out _).mono ?_
            rintro e w4 ⟨rfl, hb⟩
            have HW4 : Hid (Below w.heap.size w w4) := HW3.out.trans (hb.mono HW3.out.size)
            replace HF1 := Lib.hid (HF1.out.below hb)
            clear hb
            go_wp2_with fail
            refine (GVH.out _).mono ?_
            rintro e w5 ⟨rfl, hb⟩
            have HW5 : Hid (Below w.heap.size w w5) := HW4.out.trans (hb.mono HW4.out.size)
            replace HF1 := Lib.hid (HF1.out.below hb)
            clear hb
            go_wp2_with fail
            refine (GVT.out _).mono ?_
            rintro e w6 ⟨rfl, hb⟩
            have HW6 : Hid (Below w.heap.size w w6) := HW5.out.trans (hb.mono HW5.out.size)
            replace HF1 := Lib.hid (HF1.out.below hb)
            clear hb
            go_wp2_with fail
            refine (GA.out _).mono ?_
            rintro e w7 ⟨rfl, hb⟩
            have HW7 : Hid (Below w.heap.size w w7) := HW6.out.trans (hb.mono HW6.out.size)
            replace HF1 := Lib.hid (HF1.out.below hb)
            clear hb
            go_wp2
            go_ret
            exact ⟨rfl, HW7.out⟩
        · rw [validB_no vH] at GVH
          clear vH hx hy
          go_enter Try.func6, Try.ntmps6
          go_wp2_with fail
          refine (GS.out _ _ rfl).mono ?_
          rintro e w1 ⟨rfl, hb⟩
          have HW1 : Hid (Below w.heap.size w w1) := HW0.out.trans (hb.mono HW0.out.size)
          clear hb
          go_wp2_with fail
          refine (GF.out _).mono ?_
          rintro e w2 ⟨⟨A1, c1, rfl, hk⟩, hb⟩
          have HW2 : Hid (Below w.heap.size w w2) := HW1.out.trans (hb.mono HW1.out.size)
          have HF1 := Lib.hid hk
          clear hk
          clear hb
          go_wp2_with fail
          refine (GVS.out _).mono ?_
          rintro e w3 ⟨rfl, hb⟩
          have HW3 : Hid (Below w.heap.size w w3) := HW2.out.trans (hb.mono HW2.out.size)
          replace HF1 := Lib.hid (HF1.out.below hb)
          clear hb
          go_wp2_with fail
          refine (GVR.out _).mono ?_
          rintro e w4 ⟨rfl, hb⟩
          have HW4 : Hid (Below w.heap.size w w4) := HW3.out.trans (hb.mono HW3.out.size)
          replace HF1 := Lib.hid (HF1.out.below hb)
          clear hb
          go_wp2_with fail
          refine (GVH.out _).mono ?_
          rintro e w5 ⟨rfl, hb⟩
          have HW5 : Hid (Below w.heap.size w w5) := HW4.out.trans (hb.mono HW4.out.size)
          replace HF1 := Lib.hid (HF1.out.below hb)
          clear hb
          go_wp2_with fail
          refine (GA.out _).mono ?_
          rintro e w6 ⟨rfl, hb⟩
          have HW6 : Hid (Below w.heap.size w w6) := HW5.out.trans (hb.mono HW5.out.size)
          replace HF1 := Lib.hid (HF1.out.below hb)
          clear hb
          go_wp2
          go_ret
          exact ⟨rfl, HW6.out⟩
      · rw [validB_no vR] at GVR
        obtain ⟨x, hx⟩ := vS
        rw [validB_yes hx] at GVS
        rw [fErr_no (.inr vR), fOut_no (.inr vR)] at GF
        clear vR hx
        go_enter Try.func6, Try.ntmps6
        go_wp2_with fail
        refine (GS.out _ _ rfl).mono ?_
        rintro e w1 ⟨rfl, hb⟩
        have HW1 : Hid (Below w.heap.size w w1) := HW0.out.trans (hb.mono HW0.out.size)
        clear hb
        go_wp2_with fail
        refine (GF.out _).mono ?_
        rintro e w2 ⟨⟨A1, c1, rfl, hk⟩, hb⟩
        have HW2 : Hid (Below w.heap.size w w2) := HW1.out.trans (hb.mono HW1.out.size)
        have HF1 := Lib.hid hk
        clear hk
        clear hb
        go_wp2_with fail
        refine (GVS.out _).mono ?_
        rintro e w3 ⟨rfl, hb⟩
        have HW3 : Hid (Below w.heap.size w w3) := HW2.out.trans (hb.mono HW2.out.size)
        replace HF1 := Lib.hid (HF1.out.below hb)
        clear hb
        go_wp2_with fail
        refine (GVR.out _).mono ?_
        rintro e w4 ⟨rfl, hb⟩
        have HW4 : Hid (Below w.heap.size w w4) := HW3.out.trans (hb.mono HW3.out.size)
        replace HF1 := Lib.hid (HF1.out.below hb)
        clear hb
        go_wp2_with fail
        refine (GA.out _).mono ?_
        rintro e w5 ⟨rfl, hb⟩
        have HW5 : Hid (Below w.heap.size w w5) := HW4.out.trans (hb.mono HW4.out.size)
        replace HF1 := Lib.hid (HF1.out.below hb)
        clear hb
        go_wp2
        go_ret
        exact ⟨rfl, HW5.out⟩
    · rw [validB_no vS] at GVS
      rw [fErr_no (.inl vS), fOut_no (.inl vS)] at GF
      clear vS
      go_enter Try.func6, Try.ntmps6
      go_wp2_with fail
      refine (GS.out _ _ rfl).mono ?_
      rintro e w1 ⟨rfl, hb⟩
      have HW1 : Hid (Below w.heap.size w w1) := HW0.out.trans (hb.mono HW0.out.size)
      clear hb
      go_wp2_with fail
      refine (GF.out _).mono ?_
      rintro e w2 ⟨⟨A1, c1, rfl, hk⟩, hb⟩
      have HW2 : Hid (Below w.heap.size w w2) := HW1.out.trans (hb.mono HW1.out.size)
      have HF1 := Lib.hid hk
      clear hk
      clear hb
      go_wp2_with fail
      refine (GVS.out _).mono ?_
      rintro e w3 ⟨rfl, hb⟩
      have HW3 : Hid (Below w.heap.size w w3) := HW2.out.trans (hb.mono HW2.out.size)
      replace HF1 := Lib.hid (HF1.out.below hb)
      clear hb
      go_wp2_with fail
      refine (GA.out _).mono ?_
      rintro e w4 ⟨rfl, hb⟩
      have HW4 : Hid (Below w.heap.size w w4) := HW3.out.trans (hb.mono HW3.out.size)
      replace HF1 := Lib.hid (HF1.out.below hb)
      clear hb
      go_wp2
      go_ret
      exact ⟨rfl, HW4.out⟩
  · have h1' : 600 < T := by omega
    clear h1 hb
    go_enter Try.func6, Try.ntmps6
    go_wp2_with fail
    refine (GS.out _ _ rfl).mono ?_
    rintro e w1 ⟨rfl, hb⟩
    have HW1 : Hid (Below w.heap.size w w1) := HW0.out.trans (hb.mono HW0.out.size)
    clear hb
    go_wp2_with fail
    refine (GA.out _).mono ?_
    rintro e w2 ⟨rfl, hb⟩
    have HW2 : Hid (Below w.heap.size w w2) := HW1.out.trans (hb.mono HW1.out.size)
    clear hb
    go_wp2
    go_ret
    exact ⟨rfl, HW2.out⟩
end Go.Proofs.Ytfbkdabnbddgpaa

/- ApplyDiffs holds: a Diff touches no more than what differs: what both begin and end with is kept: whatever the law is called with: it answers true and changes nothing. No condition. -/
namespace Go.Proofs.Ytfbkdabnbddgpaa
open Go.ChangeShapes Go.WideShapes Go.ChangeAt Go.RowKit

set_option maxRecDepth 100000 in
theorem applyDiffs_lifted (os : Os) (started : os.Started) (H : Type) (enc : TypeId × Value → H) :
    ReturnsInHanded {} Try.checked os 6 .any (Rows.applyDiffsSpec.pre6 enc Try.prog Try.f6 Rows.applyDiffsRow.domain false) (Rows.applyDiffsSpec.post enc Try.prog Try.f6 false true false false) := by
  refine returnsInHanded_of_change (C := Try.checked) law_own started (by kernel_rfl) Try.func6
    (ChangeSpec.witness6 (enc := enc) (C := Try.checked) false ⟨#[], #[.string { data := #[] }, .string { data := #[] }, .string { data := #[] }, .string { data := #[] }], []⟩ 8 (by kernel_rfl) (by kernel_rfl) (by kernel_rfl) (by kernel_rfl)) ?_
  intro W base args ds gs before hval0 hW _ _
  have hval : ∀ (j : Nat) t v, Try.f6.params[j]? = some t → args[j]? = some v → Value.okWide Try.prog W .any base t v := hval0
  have hW' := hW
  obtain ⟨p, q, hA0, hV, rfl, _, _⟩ := hW
  have hA : DataW.TrodAll enc Try.prog W 0 (fun _ => true) true Try.f6.params.toList args.toList ds p := hA0
  rw [Try.params6] at hA hval
  obtain ⟨v0, v1, v2, v3, d0, d1, d2, d3, p0, p1, p2, p3, rfl, rfl, rfl, h0, h1, h2, h3⟩ := trodAll_four hA
  obtain ⟨rfl, rfl⟩ := trodVars_none hV
  obtain ⟨s0, rfl, rfl, rfl, hsz0⟩ := Go.ChangeMaps.open_string Try.underlying9 (hval 0 9 v0 rfl rfl) h0
  obtain ⟨t0, hb0, rfl⟩ := bstr_any s0
  have hl0 : t0.length ≤ maxLen := by rw [bstr_size] at hsz0; exact hsz0
  obtain ⟨s1, rfl, rfl, rfl, hsz1⟩ := Go.ChangeMaps.open_string Try.underlying9 (hval 1 9 v1 rfl rfl) h1
  obtain ⟨t1, hb1, rfl⟩ := bstr_any s1
  have hl1 : t1.length ≤ maxLen := by rw [bstr_size] at hsz1; exact hsz1
  obtain ⟨s2, rfl, rfl, rfl, hsz2⟩ := Go.ChangeMaps.open_string Try.underlying9 (hval 2 9 v2 rfl rfl) h2
  obtain ⟨t2, hb2, rfl⟩ := bstr_any s2
  have hl2 : t2.length ≤ maxLen := by rw [bstr_size] at hsz2; exact hsz2
  obtain ⟨s3, rfl, rfl, rfl, hsz3⟩ := Go.ChangeMaps.open_string Try.underlying9 (hval 3 9 v3 rfl rfl) h3
  obtain ⟨t3, hb3, rfl⟩ := bstr_any s3
  have hl3 : t3.length ≤ maxLen := by rw [bstr_size] at hsz3; exact hsz3
  clear hA0 hval0
  refine (applyDiffs_any t0 t1 t2 t3 hb0 hl0 hb1 hl1 hb2 hl2 hb3 hl3 W).mono fun e W' ⟨he, hb⟩ => ?_
  exact ⟨_, he, law_post law_laid (by kernel_rfl) (by kernel_rfl) Try.underlying4 rfl hW' rfl hb⟩

theorem applyDiffs_holds : Rows.ApplyDiffsSaid :=
  OpenClaim.holds_of_wide 6 Try.f6 rfl rfl rfl rfl rfl rfl rfl ⟨rfl, rfl, rfl, rfl, rfl⟩ rfl rfl rfl rfl rfl (by kernel_rfl) Try.func6 (by kernel_rfl)
    (of_decide_eq_true (by kernel_rfl)) (by unfold Func.isWrapper; first | (rw [if_pos (by decide +kernel)]; kernel_rfl) | (rw [if_neg (by decide +kernel)]; exact ⟨rfl, rfl⟩))
    (fun os started H enc _ => applyDiffs_lifted os started H enc)
end Go.Proofs.Ytfbkdabnbddgpaa
