/- Whether a text is empty, as the walk asks it. No condition. (Merged of 2 texts.) -/
import Derived.Test.YtjpjdkdbgjipnaaDoorV0
namespace Go.Proofs.YtjpjdkdbgjipnaaDoor
open Go.RowKit Go.Deep
def rnd (k : Int) (n : Nat) : Nat := (k % (n : Int)).toNat
theorem rnd_lt (k : Int) {n : Nat} (h : 0 < n) : rnd k n < n := by
 have h1 := Int.emod_nonneg k (show (n : Int) ≠ 0 by omega)
 have h2 := Int.emod_lt_of_pos k (show (0 : Int) < n by omega)
 unfold rnd
 omega
theorem yy662 (k : Int) {n : Nat} (h : 0 < n) : ((rnd k n : Nat) : Int) = k % (n : Int) := by
 have h1 := Int.emod_nonneg k (show (n : Int) ≠ 0 by omega)
 unfold rnd
 omega
theorem yy219 (k : Int) (n : Nat) (h : 0 < n) : -(n : Int) < k.tmod n ∧ k.tmod n < n := by
 have h1 := Int.tmod_lt_of_pos k (show (0 : Int) < n by omega)
 have h2 := Int.lt_tmod_of_pos k (show (0 : Int) < n by omega)
 exact ⟨h2, h1⟩
theorem yy555 (k : Int) (n : Nat) (h : 0 < n) : k % (n : Int) = if k.tmod n < 0 then k.tmod n + n else k.tmod n := by
 obtain ⟨h1, h2⟩ := yy219 k n h
 have e : k % (n : Int) = k.tmod n % (n : Int) := by
  conv => lhs; rw [← Int.mul_tdiv_add_tmod k n]
  rw [Int.add_comm, Int.add_mul_emod_self_left]
 rw [e]
 split
 ·rw [← Int.add_emod_right, Int.emod_eq_of_lt (by omega) (by omega)]
 ·rw [Int.emod_eq_of_lt (by omega) (by omega)]
theorem yy244 (k : Int) (n : Nat) (h0 : 0 < n) (h1 : n ≤ 4611686018427387904) (w : World) :
  Calls Tryd.prog 21 #[.int .i64 k, .int .i64 (n : Int)] w fun e w' => e = .returned (.int .i64 ((rnd k n : Nat) : Int)) ∧ w = w' := by
 obtain ⟨hb1, hb2⟩ := yy219 k n h0
 have HE := xh (yy555 k n h0)
 have HC := xh (yy662 k h0)
 by_cases hlt : k.tmod n < 0
 all_goals
  go_enter Tryd.func21, Tryd.ntmps21
  go_wp2
  go_ret
  first
   | exact ⟨by rw [HC.out, HE.out, if_pos hlt]; rfl, rfl⟩
   | exact ⟨by rw [HC.out, HE.out, if_neg (by omega)]; rfl, rfl⟩
end Go.Proofs.YtjpjdkdbgjipnaaDoor
namespace Go.Proofs.YtjpjdkdbgjipnaaDoor
theorem yy275 : (bstr []).toList = [] := by
 rw [ByteArray.toList, ByteArray.toList.loop, if_neg (by rw [bstr_size]; simp)]
 rfl
theorem yy174 : (bstr []).toList.isEmpty = true := by rw [yy275]; rfl
theorem yy192 {l : List Nat} (h : l ≠ []) : (bstr l).toList.isEmpty = false := by
 cases e : (bstr l).toList.isEmpty with
 | false => rfl
 | true =>
  exfalso
  have h1 : (bstr l).toList = [] := List.isEmpty_iff.1 e
  have h2 : (bstr []).toList = [] := yy275
  have h3 : ((bstr l).toList == (bstr []).toList) = false := bstr_neq fun g => h (by
   have := congrArg ByteArray.size g
   rw [bstr_size, bstr_size] at this
   exact List.length_eq_zero_iff.1 this)
  rw [h1, h2] at h3
  simp at h3
end Go.Proofs.YtjpjdkdbgjipnaaDoor
