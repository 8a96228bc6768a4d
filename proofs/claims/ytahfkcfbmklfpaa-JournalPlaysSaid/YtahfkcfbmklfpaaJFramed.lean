/- The contracts of journal.framed and journal.longest. Condition: fewer than 2^40 bytes. -/
import Derived.Test.YtahfkcfbmklfpaaJMath
import Derived.Test.YtahfkcfbmklfpaaNumSize
namespace Go.Proofs.Ytahfkcfbmklfpaa
open Go.RowKit

theorem framed_any (n : Nat) (hn : n ≤ 1099511627775) (x : Int) (hx : x = (n : Int)) (w : World) :
    Calls Try.prog 49 #[.int .i64 x] w fun e w' => e = .returned (.int .i64 ((flen n : Nat) : Int)) ∧ w = w' := by
  subst hx
  have GS := Lib.hid (numSize_yes (n + 1) (by omega) w)
  obtain ⟨s, HS⟩ : ∃ s, Hid (nsz (n + 1) = s) := ⟨_, rfl⟩
  have s6 := nsz_le (n + 1)
  have HE : Hid (flen n = s + n + 4) := by show flen n = s + n + 4; rw [flen, HS.out]
  rw [HS.out] at GS s6
  have e1 : ((n + 1 : Nat) : Int) = (n : Int) + 1 := by omega
  rw [e1] at GS
  clear e1
  go_enter Try.func49, Try.ntmps49
  go_wp2_with fail
  refine GS.out.mono ?_
  rintro e w' ⟨rfl, rfl⟩
  go_wp2
  go_ret
  exact ⟨by rw [HE.out]; congr 2, rfl⟩
/-- One less than no bytes. -/
theorem framed_less (x : Int) (hx : x = -1) (w : World) :
    Calls Try.prog 49 #[.int .i64 x] w fun e w' => e = .returned (.int .i64 4) ∧ w = w' := by
  subst hx
  have GS := Lib.hid (numSize_yes 0 (by omega) w)
  go_enter Try.func49, Try.ntmps49
  go_wp2_with fail
  refine GS.out.mono ?_
  rintro e w' ⟨rfl, rfl⟩
  rw [show nsz 0 = 1 from rfl]
  go_wp2
  go_ret
  exact ⟨rfl, rfl⟩

theorem longest_any (r : Nat) (hr : r ≤ 1099511627775) (w : World) :
    Calls Try.prog 30 #[.int .i64 (r : Int)] w fun e w' => (∃ L : Int, e = .returned (.int .i64 L) ∧ -1 ≤ L ∧ L ≤ 1099511627775 ∧ ∀ m : Nat, flen m ≤ r ↔ (m : Int) ≤ L) ∧ w = w' := by
  have G0 := Lib.hid (framed_any 0 (by omega) 0 rfl w)
  rw [flen_zero] at G0
  by_cases h5 : r < 5
  · go_enter Try.func30, Try.ntmps30
    go_wp2_with fail
    refine G0.out.mono ?_
    rintro e w' ⟨rfl, rfl⟩
    go_wp2
    go_ret
    exact ⟨⟨-1, rfl, by omega, by omega, fun m => by have := (flen_bounds m).1; omega⟩, rfl⟩
  · obtain ⟨k, rfl⟩ : ∃ k, r = k + 5 := ⟨r - 5, by omega⟩
    have GF := Lib.hid (fun (n : Nat) (h : n ≤ 1099511627775) w => framed_any n h _ rfl w)
    have ek : ((k + 5 : Nat) : Int) = (k : Int) + 5 := by omega
    rw [ek]
    go_enter Try.func30, Try.ntmps30
    go_wp2_with fail
    refine G0.out.mono ?_
    rintro e w' ⟨rfl, rfl⟩
    go_wp2
    go_loop [3] (fun n => ∃ m : Nat, m ≤ k ∧ n = .int .i64 m ∧ Hid (∀ q : Nat, flen q ≤ k + 5 → q ≤ m)) (fun n => (intOf n).toNat)
    case atStart => exact ⟨k, Nat.le_refl _, by go_num, fun q hq => by have := (flen_bounds q).1; omega⟩
    case round =>
      obtain ⟨m, hm, rfl, HM⟩ := hrel
      have hmk : m ≤ 1099511627775 := by omega
      have G := Lib.hid (GF.out m hmk)
      obtain ⟨x, HX⟩ : ∃ x, Hid (flen m = x) := ⟨_, rfl⟩
      rw [HX.out] at G
      have hx10 : x ≤ m + 10 := by rw [← HX.out]; exact (flen_bounds m).2
      by_cases hgt : k + 5 < x
      · have hm0 : 0 < m := by
          rcases Nat.eq_zero_or_pos m with h | h
          · subst h
            have := HX.out
            rw [flen_zero] at this
            omega
          · exact h
        go_wp2_with fail
        refine (G.out _).mono ?_
        rintro e w' ⟨rfl, rfl⟩
        go_wp2
        go_round
        case rel => exact ⟨m - 1, by omega, by go_num, fun q hq => by
          have h1 := HM.out q hq
          rcases Nat.lt_or_ge q m with h | h
          · omega
          · obtain rfl : q = m := by omega
            have := HX.out
            omega⟩
        case measure => simp [intOf]; omega
      · go_wp2_with fail
        refine (G.out _).mono ?_
        rintro e w' ⟨rfl, rfl⟩
        go_wp2
        go_ret
        refine ⟨⟨(m : Int), rfl, by omega, by omega, fun q => ⟨fun h => by have := HM.out q h; omega, fun h => ?_⟩⟩, rfl⟩
        have h1 := flen_mono (show q ≤ m by omega)
        have := HX.out
        omega
end Go.Proofs.Ytahfkcfbmklfpaa
