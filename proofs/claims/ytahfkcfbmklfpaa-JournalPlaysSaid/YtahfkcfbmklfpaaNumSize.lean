/- The contract of num.Size: called with any int it answers how many bytes that has ('nsz'), none if it doesn't fit, and changes nothing. No condition. -/
import Derived.Test.YtahfkcfbmklfpaaNumFits
import Derived.Test.YtahfkcfbmklfpaaNumMath
import Derived.Test.YtahfkcfbmklfpaaShelf
import Derived.Lib.Hide
namespace Go.Proofs.Ytahfkcfbmklfpaa
open Go.RowKit

theorem bitLenAux_le (f : Nat) : ∀ (x k : Nat), k < f → (Lib.bitLenAux f x ≤ k ↔ x < 2 ^ k) := by
  induction f with
  | zero => intro x k hk; omega
  | succ f ih =>
    intro x k hk
    unfold Lib.bitLenAux
    by_cases hx : x = 0
    · subst hx
      rw [if_pos rfl]
      simp [Nat.pow_pos]
    · rw [if_neg hx]
      cases k with
      | zero => simp; omega
      | succ k =>
        have := ih (x / 2) k (by omega)
        rw [Nat.pow_succ]
        omega
theorem bitLen_le (x k : Nat) (hk : k < 64) : Lib.bitLen x ≤ k ↔ x < 2 ^ k := bitLenAux_le 64 x k hk
theorem nsz_bitLen (n : Nat) (hn : n ≤ 1099511627776) : (max (Lib.bitLen n) 1 + 6) / 7 = nsz n := by
  have h1 := bitLen_le n 7 (by omega)
  have h2 := bitLen_le n 14 (by omega)
  have h3 := bitLen_le n 21 (by omega)
  have h4 := bitLen_le n 28 (by omega)
  have h5 := bitLen_le n 35 (by omega)
  have h6 := bitLen_le n 42 (by omega)
  simp only [Nat.reducePow] at h1 h2 h3 h4 h5 h6
  generalize Lib.bitLen n = L at *
  unfold nsz
  repeat' split
  all_goals omega

theorem numSize_yes (n : Nat) (h1 : n ≤ 1099511627776) (w : World) :
    Calls Try.prog 58 #[.int .i64 n] w fun e w' => e = .returned (.int .i64 (nsz n)) ∧ w = w' := by
  have hz := nsz_bitLen n h1
  have h42 := bitLen_le n 42 (by omega)
  obtain ⟨L, HL⟩ : ∃ L, Hid (Lib.bitLen n = L) := ⟨_, rfl⟩
  rw [HL.out] at hz h42
  have hL : L ≤ 42 := h42.2 (by simp only [Nat.reducePow]; omega)
  clear h42
  have HZ := Lib.hid hz; clear hz
  go_enter Try.func58, Try.ntmps58
  go_wp2_with (first
      | (go_at_call 55; refine (numFits_yes _ (by omega) (by omega) _).mono ?_; rintro e w' ⟨rfl, rfl⟩)
      | (go_at_call 63; refine (Try.bits_Len _ _ (by omega) (by omega)).mono ?_; rintro e w' ⟨rfl, rfl⟩; rw [Int.toNat_natCast, HL.out]))
  go_ret
  have HZ' := HZ.out
  exact ⟨by congr 2; simp; omega, rfl⟩

theorem numSize_no (n : Int) (h : n < 0 ∨ 1099511627776 < n) (w : World) :
    Calls Try.prog 58 #[.int .i64 n] w fun e w' => e = .returned (.int .i64 0) ∧ w = w' := by
  go_enter Try.func58, Try.ntmps58
  go_wp2_with (go_at_call 55; refine (numFits_no _ h _).mono ?_; rintro e w' ⟨rfl, rfl⟩)
  go_ret
  exact ⟨rfl, rfl⟩
end Go.Proofs.Ytahfkcfbmklfpaa
