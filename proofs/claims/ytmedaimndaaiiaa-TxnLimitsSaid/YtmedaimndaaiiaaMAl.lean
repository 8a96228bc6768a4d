/- The contract of alike.Round. Condition: its second number is positive and no more than 2^62. -/
import Derived.Test.YtmedaimndaaiiaaMBase
/- The contract of alike.Round. Condition: its second number is positive and no more than 2^62. -/
namespace Go.Proofs.Ytmedaimndaaiiaa
open Go.RowKit Go.Deep

/-- alike.Round. -/
def rnd (k : Int) (n : Nat) : Nat := (k % (n : Int)).toNat
theorem rnd_lt (k : Int) {n : Nat} (h : 0 < n) : rnd k n < n := by
  have h1 := Int.emod_nonneg k (show (n : Int) ≠ 0 by omega)
  have h2 := Int.emod_lt_of_pos k (show (0 : Int) < n by omega)
  unfold rnd
  omega
theorem rnd_cast (k : Int) {n : Nat} (h : 0 < n) : ((rnd k n : Nat) : Int) = k % (n : Int) := by
  have h1 := Int.emod_nonneg k (show (n : Int) ≠ 0 by omega)
  unfold rnd
  omega
theorem tmod_bounds (k : Int) (n : Nat) (h : 0 < n) : -(n : Int) < k.tmod n ∧ k.tmod n < n := by
  have h1 := Int.tmod_lt_of_pos k (show (0 : Int) < n by omega)
  have h2 := Int.lt_tmod_of_pos k (show (0 : Int) < n by omega)
  exact ⟨h2, h1⟩
theorem emod_tmod (k : Int) (n : Nat) (h : 0 < n) : k % (n : Int) = if k.tmod n < 0 then k.tmod n + n else k.tmod n := by
  obtain ⟨h1, h2⟩ := tmod_bounds k n h
  have e : k % (n : Int) = k.tmod n % (n : Int) := by
    conv => lhs; rw [← Int.mul_tdiv_add_tmod k n]
    rw [Int.add_comm, Int.add_mul_emod_self_left]
  rw [e]
  split
  · rw [← Int.add_emod_right, Int.emod_eq_of_lt (by omega) (by omega)]
  · rw [Int.emod_eq_of_lt (by omega) (by omega)]
theorem alikeRound_any (k : Int) (n : Nat) (h0 : 0 < n) (h1 : n ≤ 4611686018427387904) (w : World) :
    Calls Try.prog 11 #[.int .i64 k, .int .i64 (n : Int)] w fun e w' => e = .returned (.int .i64 ((rnd k n : Nat) : Int)) ∧ w = w' := by
  obtain ⟨hb1, hb2⟩ := tmod_bounds k n h0
  have HE := Lib.hid (emod_tmod k n h0)
  have HC := Lib.hid (rnd_cast k h0)
  by_cases hlt : k.tmod n < 0
  all_goals
    go_enter Try.func11, Try.ntmps11
    go_wp2
    go_ret
    first
      | exact ⟨by rw [HC.out, HE.out, if_pos hlt]; rfl, rfl⟩
      | exact ⟨by rw [HC.out, HE.out, if_neg (by omega)]; rfl, rfl⟩

end Go.Proofs.Ytmedaimndaaiiaa
