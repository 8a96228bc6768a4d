/- OpLimits, walked: so many parts, so long a text, may be, and not one more; what is no part, or not normal, is refused. No condition. -/
import Derived.Test.YtgdojhccdicapaaBadRows
import Derived.Test.YtgdojhccdicapaaJoin
import Derived.Deep.DeepCutAuto
namespace Go.Proofs.Ytgdojhccdicapaa
open Go.RowKit Go.Deep

set_option maxHeartbeats 8000000 in
set_option maxRecDepth 100000 in
theorem opLimits_in (p : Nat) (n : Int) (t : Nat) (hp : p ≤ 110) (hn1 : 1 ≤ n) (hn2 : n ≤ 2010) (ht : t ≤ 2010) (w : World) :
    Calls Try.prog 6 #[.int .i64 (p : Int), .int .i64 n, .int .i64 (t : Int)] w fun e w' => e = .returned (.bool true) ∧ Below w.heap.size w w' := by
  have GA := Lib.hid (fun w => opAwake_any w)
  have GBLK := Lib.hid (fun w => blocks_any t (by omega) 2 w)
  obtain ⟨W1, HW1⟩ : ∃ x : Int, Hid ((if 100 < p then (3 : Int) else 0) = x) := ⟨_, rfl⟩
  obtain ⟨W2, HW2⟩ : ∃ x : Int, Hid ((if 2000 < n + (t : Int) then (3 : Int) else 0) = x) := ⟨_, rfl⟩
  obtain ⟨T, HT⟩ : ∃ x, Hid (turns p = x) := ⟨_, Lib.hid rfl⟩
  obtain ⟨M, HM⟩ : ∃ x, Hid (longL n t = x) := ⟨_, Lib.hid rfl⟩
  have GC1 : Hid (∀ A c w, CompsAt w A T → Calls Try.prog 9 #[.slice A T.length c] w fun e w' => e = .returned (.int .i64 W1) ∧ Below w.heap.size w w') := fun A c w h => by
    have := opCheck_any A c T (by rw [← HT.out, turns_length]; unfold maxLen; omega) (by rw [← HT.out]; exact turns_fine p) w h
    rw [← HT.out, turns_check p hp] at this
    rw [← HT.out, ← HW1.out]
    refine this.mono fun e w' h => ⟨h.1.trans ?_, h.2⟩
    split <;> rfl
  have GC2 : Hid (∀ A c w, CompsAt w A M → Calls Try.prog 9 #[.slice A M.length c] w fun e w' => e = .returned (.int .i64 W2) ∧ Below w.heap.size w w') := fun A c w h => by
    have := opCheck_any A c M (by rw [← HM.out, longL]; unfold maxLen; split <;> simp) (by rw [← HM.out]; exact long_fine n t hn1 hn2 ht) w h
    rw [← HM.out, long_check n t hn1 hn2 ht] at this
    rw [← HM.out, ← HW2.out]
    refine this.mono fun e w' h => ⟨h.1.trans ?_, h.2⟩
    split <;> rfl
  have hb0 : ¬ (p : Int) < 0 := by omega
  have hb1 : ¬ 110 < (p : Int) := by omega
  have hb2 : ¬ n < 1 := by omega
  have hb3 : ¬ 2010 < n := by omega
  have hb4 : ¬ (t : Int) < 0 := by omega
  have hb5 : ¬ 2010 < (t : Int) := by omega
  go_enter Try.func6, Try.ntmps6
  go_wp2
  clear hb0 hb1 hb2 hb3 hb4 hb5
  go_loopw [7, 8, 9] (fun o i _ wr => ∃ (j : Nat) (L : List CompV) (A : Option Addr) (c : Nat), j ≤ p ∧ i = .int .i64 j ∧ o = .slice A L.length c ∧ turns j = L ∧ wr.ownsRow w.heap.size 35 3 (.slice A L.length c) L.length (L.flatMap compCells) ∧ Below w.heap.size w wr) (fun _ i _ _ => p - (intOf i).toNat)
  case atStart => exact ⟨0, [], none, 0, Nat.zero_le _, rfl, rfl, rfl, World.ownsRow_nil _ _ _ _, Below.refl _ _⟩
  case round =>
    obtain ⟨j, L, A, c, hj, rfl, rfl, hL, hown, hb⟩ := hrel
    have HL := Lib.hid hL; have HOWN := Lib.hid hown; have HB := Lib.hid hb
    have HLEN : Hid (L.length = j) := by show _ = _; rw [← hL, turns_length]
    clear hL hown hb
    by_cases hlt : j < p
    · by_cases hm : j % 2 = 1
      · have hr : (j : Int).tmod 2 = 1 := by rw [show (j : Int).tmod 2 = ((j % 2 : Nat) : Int) from rfl, hm]; rfl
        have HNX : Hid (turns (j + 1) = L ++ [⟨3, 1, []⟩]) := by show _ = _; rw [turns_succ, HL.out, turnP, if_pos hm]
        clear hm
        go_wp2_with (first
          | (at_builtin
             refine wpList_push rfl (.tmp 46) (.tmp 49) rfl w (.slice A L.length c) L ⟨3, 1, []⟩ rfl HOWN.out HB.out rfl (by have := HLEN.out; omega) ?_
             intro out1 A1 c1 w1 ho1 hown1 hb1
             have HO1 := Lib.hid ho1; have HOWN1 := Lib.hid hown1; have HB1 := Lib.hid hb1
             clear ho1 hown1 hb1)
          | fail)
        go_roundw
        case rel => exact ⟨j + 1, out1, A1, c1, by omega, by go_num, rfl, by rw [HO1.out, HNX.out], HOWN1.out, HB1.out⟩
        case measure => simp [intOf]; omega
      · have hr : (j : Int).tmod 2 = 0 := by rw [show (j : Int).tmod 2 = ((j % 2 : Nat) : Int) from rfl, show j % 2 = 0 by omega]; rfl
        have HNX : Hid (turns (j + 1) = L ++ [⟨1, 1, []⟩]) := by show _ = _; rw [turns_succ, HL.out, turnP, if_neg hm]
        clear hm
        go_wp2_with (first
          | (at_builtin
             refine wpList_push rfl (.tmp 46) (.tmp 49) rfl w (.slice A L.length c) L ⟨1, 1, []⟩ rfl HOWN.out HB.out rfl (by have := HLEN.out; omega) ?_
             intro out1 A1 c1 w1 ho1 hown1 hb1
             have HO1 := Lib.hid ho1; have HOWN1 := Lib.hid hown1; have HB1 := Lib.hid hb1
             clear ho1 hown1 hb1)
          | fail)
        go_roundw
        case rel => exact ⟨j + 1, out1, A1, c1, by omega, by go_num, rfl, by rw [HO1.out, HNX.out], HOWN1.out, HB1.out⟩
        case measure => simp [intOf]; omega
    · obtain rfl : j = p := by omega
      have hLT : L = T := by rw [← HL.out, HT.out]
      subst hLT
      have HAT := Lib.hid (CellsAt.of_own HOWN.out)
      clear HOWN HL
      go_upto_if 52 with fail
      go_cut [10] (fun s10 wc => s10 = .int .i64 W1 ∧ wc = wr)
      case first =>
        by_cases h : 100 < (j : Int)
        · have hd : decide (100 < (j : Int)) = true := decide_eq_true h
          have HX : Hid (W1 = 3) := by show _ = _; rw [← HW1.out, if_pos (by omega)]
          go_wp2_with fail
          go_meet
          case rel => exact ⟨by rw [HX.out], rfl⟩
        · have hd : decide (100 < (j : Int)) = false := decide_eq_false h
          have HX : Hid (W1 = 0) := by show _ = _; rw [← HW1.out, if_neg (by omega)]
          go_wp2_with fail
          go_meet
          case rel => exact ⟨by rw [HX.out], rfl⟩
      case rest =>
        obtain ⟨rfl, hwc⟩ := hcut
        subst wc
        go_upto_if 57 with fail
        go_cut [11] (fun s11 wc => ∃ A c, s11 = .slice A M.length c ∧ CompsAt wc A M ∧ Below wr.heap.size wr wc)
        case first =>
          by_cases h : t = 0
          · have h0 : ¬ (0 : Int) < (t : Int) := by omega
            have hd : decide ((0 : Int) < (t : Int)) = false := decide_eq_false h0
            have HX : Hid (M = [⟨1, n, []⟩]) := by show _ = _; rw [← HM.out, longL, if_pos h]
            clear h
            have HR := Lib.hid (row_one wr wr.heap.size rfl 1 n [])
            go_wp2_with fail
            go_meet
            case rel => exact ⟨_, _, by rw [HX.out]; rfl, by rw [HX.out]; exact HR.out, (Below.refl _ _).alloc (Nat.le_refl _) _⟩
          · have h0 : (0 : Int) < (t : Int) := by omega
            have hd : decide ((0 : Int) < (t : Int)) = true := decide_eq_true h0
            have HX : Hid (M = ⟨2, 0, blks t 2⟩ :: [⟨1, n, []⟩]) := by show _ = _; rw [← HM.out, longL, if_neg h]
            clear h
            have HR := Lib.hid (row_one wr wr.heap.size rfl 1 n [])
            have hbw : Below wr.heap.size wr (wr.alloc (.cells #[.int .i64 1, .int .i64 n, .string (bstr [])] 35)) := (Below.refl _ _).alloc (Nat.le_refl _) _
            have HBW := Lib.hid hbw; clear hbw
            go_wp2_with fail
            refine (GBLK.out _).mono ?_
            rintro e w2 ⟨rfl, hb2⟩
            have HR2 := Lib.hid (HR.out.below hb2)
            have HBW2 : Hid (Below wr.heap.size wr w2) := HBW.out.trans (hb2.mono HBW.out.size)
            clear hb2
            go_wp2_with (first
              | (at_builtin
                 refine wpList_join rfl (.tmp 61) (.tmp 62) rfl ⟨2, 0, blks t 2⟩ rfl (some ⟨wr.heap.size, 0, none⟩) 1 [⟨1, n, []⟩] rfl HR2.out (by simp) ?_
                 intro out1 A1 c1 w1 ho1 hown1 hb1
                 have HO1 := Lib.hid ho1; have HOWN1 := Lib.hid hown1
                 have HB1 : Hid (Below wr.heap.size wr w1) := HBW2.out.trans (hb1.mono HBW2.out.size)
                 clear ho1 hown1 hb1)
              | fail)
            go_meet
            case rel => exact ⟨A1, c1, by rw [HX.out, ← HO1.out], by rw [HX.out, ← HO1.out]; exact CellsAt.of_own HOWN1.out, HB1.out⟩
        case rest =>
          obtain ⟨A2, c2, rfl, hc2, hb2⟩ := hcut
          have HC2 := Lib.hid hc2
          have HB2 : Hid (Below w.heap.size w wc) := HB.out.trans (hb2.mono HB.out.size)
          have HAT2 : Hid (CompsAt wc A L) := CompsAt.below HAT.out hb2
          clear hc2 hb2 HAT HB
          generalize wc = w2 at *
          go_upto_if 67 with fail
          go_cut [12] (fun s12 wd => s12 = .int .i64 W2 ∧ wd = w2)
          case first =>
            by_cases h : 2000 < n + (t : Int)
            · have hd : decide (2000 < n + (t : Int)) = true := decide_eq_true h
              have HX : Hid (W2 = 3) := by show _ = _; rw [← HW2.out, if_pos h]
              go_wp2_with fail
              go_meet
              case rel => exact ⟨by rw [HX.out], rfl⟩
            · have hd : decide (2000 < n + (t : Int)) = false := decide_eq_false h
              have HX : Hid (W2 = 0) := by show _ = _; rw [← HW2.out, if_neg h]
              go_wp2_with fail
              go_meet
              case rel => exact ⟨by rw [HX.out], rfl⟩
          case rest =>
            obtain ⟨rfl, hwd⟩ := hcut
            subst hwd
            generalize wc = w3 at *
            go_upto_region 20 with fail
            go_cut [13] (fun s13 wd => ∃ g, s13 = .slice (some ⟨g, 0, none⟩) 8 8 ∧ EditsAt wd g badL ∧ g < wd.heap.size ∧ Below w3.heap.size w3 wd)
            case first =>
              have HBAD := Lib.hid (bad_laid w3)
              go_wp2_with fail
              go_meet
              case rel => exact ⟨_, rfl, HBAD.out⟩
            case rest =>
              obtain ⟨g, rfl, hbad, hg, hb⟩ := hcut
              generalize wc = w4 at *
              have HBAD := Lib.hid hbad
              have HG := Lib.hid hg
              have HB4 : Hid (Below w.heap.size w w4) := HB2.out.trans (hb.mono HB2.out.size)
              have HC4 : Hid (CompsAt w4 A2 M) := HC2.out.below hb
              have HAT4 : Hid (CompsAt w4 A L) := HAT2.out.below hb
              have GCB : Hid (∀ (l : List CompV) (b : Nat) (w : World), l ∈ badL → CompsAt w (some ⟨b, 0, none⟩) l → Calls Try.prog 9 #[.slice (some ⟨b, 0, none⟩) l.length l.length] w fun e w' => e = .returned (.int .i64 1) ∧ Below w.heap.size w w') := fun l b w hl h => by
                have hf := bad_fine hl
                have := opCheck_any (some ⟨b, 0, none⟩) l.length l (by have := hf.2; unfold maxLen; omega) hf.1 w h
                rwa [bad_check hl] at this
              have hw1 : (W1 == W1) = true := by simp
              have hw2 : (W2 == W2) = true := by simp
              clear hbad hg hb HC2 HAT2 HB2
              go_wp2_with fail
              go_loopw [14] (fun i wr => ∃ k : Nat, k ≤ 8 ∧ i = .int .i64 k ∧ Below w4.heap.size w4 wr) (fun i _ => 8 - (intOf i).toNat)
              case atStart => exact ⟨0, Nat.zero_le _, rfl, Below.refl _ _⟩
              case round =>
                obtain ⟨k, hk, rfl, hbel⟩ := hrel
                have HBEL := Lib.hid hbel; clear hbel
                by_cases hk8 : k < 8
                · obtain ⟨b, x0, hx⟩ := (HBAD.out.below HG.out HBEL.out) k _ (List.getElem?_eq_getElem (l := badL) (i := k) hk8)
                  have HX := Lib.hid hx
                  have GK := Lib.hid (GCB.out _ b wr (List.getElem_mem (l := badL) (n := k) hk8) HX.out)
                  have HM2 : Hid (badL[k].length ≤ 2) := (bad_fine (List.getElem_mem (l := badL) (n := k) hk8)).2
                  clear hx HX
                  generalize badL[k].length = m at x0 GK HM2
                  go_wp2_with fail
                  refine GK.out.mono ?_
                  rintro e w5 ⟨rfl, hb5⟩
                  have HB5 : Hid (Below w4.heap.size w4 w5) := HBEL.out.trans (hb5.mono HBEL.out.size)
                  clear hb5
                  go_wp2_with fail
                  go_roundw
                  case rel => exact ⟨k + 1, by omega, by go_num, HB5.out⟩
                  case measure => simp [intOf]; omega
                · obtain rfl : k = 8 := by omega
                  go_wp2_with fail
                  refine (GC1.out _ _ _ (HAT4.out.below HBEL.out)).mono ?_
                  rintro e w5 ⟨rfl, hb5⟩
                  have HB5 : Hid (Below w4.heap.size w4 w5) := HBEL.out.trans (hb5.mono HBEL.out.size)
                  clear hb5
                  go_wp2_with fail
                  refine (GC2.out _ _ _ (HC4.out.below HB5.out)).mono ?_
                  rintro e w6 ⟨rfl, hb6⟩
                  have HB6 : Hid (Below w4.heap.size w4 w6) := HB5.out.trans (hb6.mono HB5.out.size)
                  clear hb6
                  go_wp2_with fail
                  refine (GA.out _).mono ?_
                  rintro e w7 ⟨rfl, hb7⟩
                  have HB7 : Hid (Below w.heap.size w w7) := HB4.out.trans ((HB6.out.trans (hb7.mono HB6.out.size)).mono HB4.out.size)
                  clear hb7
                  go_wp2
                  go_ret
                  exact ⟨rfl, HB7.out⟩

set_option maxHeartbeats 2000000 in
set_option maxRecDepth 100000 in
theorem opLimits_out (p n t : Int) (h : p < 0 ∨ 110 < p ∨ n < 1 ∨ 2010 < n ∨ t < 0 ∨ 2010 < t) (w : World) :
    Calls Try.prog 6 #[.int .i64 p, .int .i64 n, .int .i64 t] w fun e w' => e = .returned (.bool true) ∧ Below w.heap.size w w' := by
  have GA := Lib.hid (fun w => opAwake_any w)
  have H := Lib.hid h; clear h
  by_cases h1 : p < 0
  · clear H
    go_enter Try.func6, Try.ntmps6
    go_wp2_with fail
    refine (GA.out _).mono ?_
    rintro e w1 ⟨rfl, hb1⟩
    have HB1 := Lib.hid hb1; clear hb1
    go_wp2
    go_ret
    exact ⟨rfl, HB1.out⟩
  by_cases h2 : 110 < p
  · clear H
    go_enter Try.func6, Try.ntmps6
    go_wp2_with fail
    refine (GA.out _).mono ?_
    rintro e w1 ⟨rfl, hb1⟩
    have HB1 := Lib.hid hb1; clear hb1
    go_wp2
    go_ret
    exact ⟨rfl, HB1.out⟩
  by_cases h3 : n < 1
  · clear H
    go_enter Try.func6, Try.ntmps6
    go_wp2_with fail
    refine (GA.out _).mono ?_
    rintro e w1 ⟨rfl, hb1⟩
    have HB1 := Lib.hid hb1; clear hb1
    go_wp2
    go_ret
    exact ⟨rfl, HB1.out⟩
  by_cases h4 : 2010 < n
  · clear H
    go_enter Try.func6, Try.ntmps6
    go_wp2_with fail
    refine (GA.out _).mono ?_
    rintro e w1 ⟨rfl, hb1⟩
    have HB1 := Lib.hid hb1; clear hb1
    go_wp2
    go_ret
    exact ⟨rfl, HB1.out⟩
  by_cases h5 : t < 0
  · clear H
    go_enter Try.func6, Try.ntmps6
    go_wp2_with fail
    refine (GA.out _).mono ?_
    rintro e w1 ⟨rfl, hb1⟩
    have HB1 := Lib.hid hb1; clear hb1
    go_wp2
    go_ret
    exact ⟨rfl, HB1.out⟩
  have h6 : 2010 < t := by have := H.out; omega
  clear H
  go_enter Try.func6, Try.ntmps6
  go_wp2_with fail
  refine (GA.out _).mono ?_
  rintro e w1 ⟨rfl, hb1⟩
  have HB1 := Lib.hid hb1; clear hb1
  go_wp2
  go_ret
  exact ⟨rfl, HB1.out⟩

theorem opLimits_any (p n t : Int) (w : World) :
    Calls Try.prog 6 #[.int .i64 p, .int .i64 n, .int .i64 t] w fun e w' => e = .returned (.bool true) ∧ Below w.heap.size w w' := by
  by_cases h : p < 0 ∨ 110 < p ∨ n < 1 ∨ 2010 < n ∨ t < 0 ∨ 2010 < t
  · exact opLimits_out p n t h w
  · have := opLimits_in p.toNat n t.toNat (by omega) (by omega) (by omega) (by omega) w
    rwa [Int.toNat_of_nonneg (by omega), Int.toNat_of_nonneg (by omega)] at this
end Go.Proofs.Ytgdojhccdicapaa
