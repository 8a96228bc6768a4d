/- The walk of the law NumLengths: whatever int it is called with, it answers true; what was there stays as it was. No condition. -/
import Derived.Test.YtkhnhlnnfeebmaaLawNumAwake
namespace Go.Proofs.Ytkhnhlnnfeebmaa
open Go.RowKit Go.Deep

theorem numLengths_no (n : Int) (h : n < 0 ∨ 1099511627776 < n) (w : World) :
    Calls Try.prog 5 #[.int .i64 n] w fun e w' => e = .returned (.bool true) ∧ Below w.heap.size w w' := by
  have h' : n < 0 ∨ (0 ≤ n ∧ 1099511627776 < n) := by omega
  rcases h' with h' | ⟨h0, h'⟩
  all_goals
    go_enter Try.func5, Try.ntmps5
    go_wp2_with (first
      | (go_at_call 11; refine (numSize_no _ h _).mono ?_; rintro e w' ⟨rfl, rfl⟩)
      | (go_at_call 9; refine (numPut_no _ h _).mono ?_; rintro e w' ⟨rfl, rfl⟩)
      | (go_at_call 12; refine (numFits_no _ h _).mono ?_; rintro e w' ⟨rfl, rfl⟩)
      | (go_at_call 6; refine (numAwake_any _).mono ?_; rintro e w' ⟨rfl, hb⟩))
    go_ret
    exact ⟨rfl, hb⟩

theorem nb_val (n s i : Nat) (hi : i < s) : n / 128 ^ (s - i) * 128 + nb n (s - 1 - i) % 128 = n / 128 ^ (s - 1 - i) := by
  obtain ⟨r, hr⟩ : ∃ r, s = i + 1 + r := ⟨s - 1 - i, by omega⟩
  subst hr
  have e1 : i + 1 + r - i = r + 1 := by omega
  have e2 : i + 1 + r - 1 - i = r := by omega
  rw [e1, e2, ← div_pow_step]
  have : nb n r % 128 = n / 128 ^ r % 128 := by
    unfold nb
    split
    · rename_i h; subst h; simp
    · omega
  omega
theorem nb_big (n i : Nat) : 128 ≤ nb n i ↔ i ≠ 0 := by
  unfold nb
  split
  · rename_i h; subst h; omega
  · omega
theorem nb_first (n : Nat) (hm : n ≤ 1099511627776) (h : nsz n ≠ 1) : nb n (nsz n - 1) ≠ 128 := by
  have h0 := nsz_pos n
  have h1 := nsz_div n (nsz n - 1) hm (by omega)
  have h2 := nsz_end n hm
  obtain ⟨r, hr⟩ : ∃ r, nsz n = r + 1 := ⟨nsz n - 1, by omega⟩
  rw [hr, ← div_pow_step] at h2
  rw [hr, Nat.add_sub_cancel] at h1 ⊢
  rw [nb, if_neg (by omega)]
  omega

set_option maxRecDepth 100000 in
theorem numLengths_yes (n : Nat) (h1 : n ≤ 1099511627776) (w : World) :
    Calls Try.prog 5 #[.int .i64 n] w fun e w' => e = .returned (.bool true) ∧ Below w.heap.size w w' := by
  have s6 := nsz_le n
  have s0 := nsz_pos n
  have hfirst := nb_first n h1
  obtain ⟨s, HS⟩ : ∃ s, Hid (nsz n = s) := ⟨_, rfl⟩
  rw [HS.out] at s6 s0 hfirst
  have HF := Lib.hid hfirst; clear hfirst
  have d1 : decide ((n : Int) < 0) = false := by simp
  have d2 : decide (1099511627776 < (n : Int)) = false := by simp; omega
  go_enter Try.func5, Try.ntmps5
  go_wp2
  go_loop [3, 4] (fun q k => ∃ x y : Nat, k = .int .i64 x ∧ q = .int .i64 y ∧ x ≤ 1099511627776 ∧ y ≤ s ∧ Hid (y + nsz x = s + 1)) (fun _ k => (intOf k).toNat)
  case atStart => exact ⟨n, 1, rfl, rfl, h1, by omega, by show 1 + nsz n = s + 1; have := HS.out; omega⟩
  case round =>
    obtain ⟨x, y, rfl, rfl, hx, hy, HY⟩ := hrel
    by_cases hlt : 128 ≤ x
    · have HY' : Hid (y + 1 + nsz (x / 128) = s + 1) := by
        show y + 1 + nsz (x / 128) = s + 1
        have := HY.out
        rw [nsz_step x hlt hx] at this
        omega
      have hy' : y + 1 ≤ s := by have := HY'.out; have := nsz_pos (x / 128); omega
      go_wp2
      go_round
      case rel => exact ⟨x / 128, y + 1, by go_num, by go_num, by omega, by omega, HY'⟩
      case measure => simp [intOf]; omega
    · obtain rfl : y = s := by have := HY.out; rw [nsz_one x (by omega)] at this; omega
      clear HY
      go_wp2_with fail
      refine (numPut_yes n h1 _).mono ?_
      rintro e w1 ⟨v, rfl, g, c, rfl, _, hg, hg', hc, hb1⟩
      rw [nput_length, HS.out]
      have HC : Hid (∀ i, i < y → w1.cell? ⟨g, i, none⟩ = some (.int .u8 ((nb n (y - 1 - i) : Nat) : Int))) := by
        intro i hi
        have := hc i (nb n (y - 1 - i)) (by rw [nput, nt_at _ _ _ (by rw [HS.out]; omega), HS.out])
        rwa [Nat.zero_add] at this
      clear hc
      go_wp2_with fail
      clear hlt
      have HB1 := Lib.hid hb1; clear hb1
      go_loop [6, 7] (fun v i => ∃ k V : Nat, k ≤ y ∧ i = .int .i64 k ∧ v = .int .i64 V ∧ V ≤ 1099511627776 ∧ Hid (V = n / 128 ^ (y - k))) (fun _ i => y - (intOf i).toNat)
      case atStart => exact ⟨0, 0, Nat.zero_le _, rfl, rfl, by omega, by show 0 = n / 128 ^ (y - 0); have := nsz_end n h1; rw [HS.out] at this; rw [Nat.sub_zero, this]⟩
      case round =>
        obtain ⟨k, V, hk, rfl, rfl, hV, HV⟩ := hrel
        by_cases hlt : k < y
        · have hcell := HC.out k hlt
          obtain ⟨C, HCC⟩ : ∃ C, Hid (nb n (y - 1 - k) = C) := ⟨_, rfl⟩
          rw [HCC.out] at hcell
          have hC256 : C < 256 := by rw [← HCC.out]; exact nb_lt _ _
          have HW : Hid (V * 128 + C % 128 = n / 128 ^ (y - (k + 1))) := by
            show V * 128 + C % 128 = n / 128 ^ (y - (k + 1))
            rw [HV.out, ← HCC.out, nb_val n y k hlt]
            congr 2
            omega
          have hW : V * 128 + C % 128 ≤ 1099511627776 := by rw [HW.out]; exact Nat.le_trans (Nat.div_le_self _ _) h1
          have hbig : 128 ≤ C ↔ k + 1 < y := by rw [← HCC.out, nb_big]; omega
          have et : (!(decide (128 ≤ (C : Int)) == decide ((k : Int) + 1 < (y : Int)))) = false := by
            by_cases h : k + 1 < y
            · have := hbig.2 h
              rw [decide_eq_true (by omega), decide_eq_true (by omega)]; rfl
            · have : ¬ 128 ≤ C := fun h' => h (hbig.1 h')
              rw [decide_eq_false (by omega), decide_eq_false (by omega)]; rfl
          clear hbig
          go_wp2
          go_round
          case rel => exact ⟨k + 1, V * 128 + C % 128, by omega, by go_num, by go_num, hW, HW⟩
          case measure => simp [intOf]; omega
        · obtain rfl : k = y := by omega
          obtain rfl : V = n := by have := HV.out; rw [Nat.sub_self] at this; simpa using this
          clear HV hV
          have HH1 := Lib.hid h1
          by_cases hk1 : k = 1
          · subst hk1
            go_wp2_with (first
              | (go_at_call 11; refine (numSize_yes V HH1.out _).mono ?_; rintro e w' ⟨rfl, rfl⟩; rw [HS.out])
              | (go_at_call 6; refine (numAwake_any _).mono ?_; rintro e w' ⟨rfl, hb⟩))
            go_ret
            exact ⟨by simp, HB1.out.trans (hb.mono HB1.out.size)⟩
          · have hD := HF.out hk1
            have hc0 := HC.out 0 s0
            rw [Nat.sub_zero] at hc0
            have h256 := nb_lt V (k - 1)
            obtain ⟨D, HD⟩ : ∃ D, Hid (nb V (k - 1) = D) := ⟨_, rfl⟩
            rw [HD.out] at hc0 hD h256
            have e1 : ((k : Int) == 1) = false := by simp; omega
            have e2 : ((D : Int) != 128) = true := by simp; omega
            go_wp2_with (first
              | (go_at_call 11; refine (numSize_yes V HH1.out _).mono ?_; rintro e w' ⟨rfl, rfl⟩; rw [HS.out])
              | (go_at_call 6; refine (numAwake_any _).mono ?_; rintro e w' ⟨rfl, hb⟩))
            go_ret
            exact ⟨by simp, HB1.out.trans (hb.mono HB1.out.size)⟩
end Go.Proofs.Ytkhnhlnnfeebmaa
