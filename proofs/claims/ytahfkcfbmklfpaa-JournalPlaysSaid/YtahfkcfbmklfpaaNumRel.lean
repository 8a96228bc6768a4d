/- Masks and sums of bits, and made rows, that writers and readers of numbers lean on. Conditions: as each states. -/
import Derived.Test.YtahfkcfbmklfpaaNumMath
import Derived.Test.YtahfkcfbmklfpaaBy
import Derived.Deep.OwnRows
import Derived.Lib.Hide
namespace Go.Proofs.Ytahfkcfbmklfpaa
open Go.RowKit Go.Deep

theorem ret3 {a b c a' b' c' : Int} (h1 : a = a') (h2 : b = b') (h3 : c = c') : Ending.returned (.tuple #[.int .i64 a, .int .i64 b, .int .i64 c]) = .returned (.tuple #[.int .i64 a', .int .i64 b', .int .i64 c']) := by subst h1; subst h2; subst h3; rfl

theorem band127 (c : Nat) (h : c < 256) : bits BinOp.and IntKind.u8 (c : Int) 127 = ((c % 128 : Nat) : Int) := by
  have h1 : (BitVec.ofInt 8 (c : Int)).toNat = c := by rw [BitVec.ofInt_natCast, BitVec.toNat_ofNat]; omega
  show IntKind.u8.wrap ((BitVec.ofInt 8 (c : Int) &&& BitVec.ofInt 8 127).toNat : Int) = _
  rw [BitVec.toNat_and, h1, show (BitVec.ofInt 8 127).toNat = 2 ^ 7 - 1 from rfl, Nat.and_two_pow_sub_one_eq_mod]
  have h2 : c % 128 < 128 := Nat.mod_lt _ (by omega)
  rw [show (7 : Nat) = 7 from rfl, show (2 : Nat) ^ 7 = 128 from rfl]
  generalize c % 128 = x at h2
  unfold IntKind.wrap
  simp [IntKind.bits, IntKind.signed]
  omega
theorem bor7 (a m : Nat) (ha : a ≤ 1099511627776) (h : m < 128) : bits BinOp.or IntKind.i64 ((a : Int) * 128) (m : Int) = ((a * 128 + m : Nat) : Int) := by
  have h1 : (BitVec.ofInt 64 ((a : Int) * 128)).toNat = a * 128 := by
    rw [show ((a : Int) * 128) = ((a * 128 : Nat) : Int) by omega, BitVec.ofInt_natCast, BitVec.toNat_ofNat]; omega
  have h2 : (BitVec.ofInt 64 (m : Int)).toNat = m := by rw [BitVec.ofInt_natCast, BitVec.toNat_ofNat]; omega
  show IntKind.i64.wrap ((BitVec.ofInt 64 ((a : Int) * 128) ||| BitVec.ofInt 64 (m : Int)).toNat : Int) = _
  rw [BitVec.toNat_or, h1, h2, show a * 128 = a <<< 7 by rw [Nat.shiftLeft_eq], ← Nat.shiftLeft_add_eq_or_of_lt (by omega : m < 2 ^ 7), Nat.shiftLeft_eq, IntKind.wrap_i64]
  omega

theorem band127i (x : Nat) (h : x ≤ 1099511627776) : bits BinOp.and IntKind.i64 (x : Int) 127 = ((x % 128 : Nat) : Int) := by
  have h1 : (BitVec.ofInt 64 (x : Int)).toNat = x := by rw [BitVec.ofInt_natCast, BitVec.toNat_ofNat]; omega
  show IntKind.i64.wrap ((BitVec.ofInt 64 (x : Int) &&& BitVec.ofInt 64 127).toNat : Int) = _
  rw [BitVec.toNat_and, h1, show (BitVec.ofInt 64 127).toNat = 2 ^ 7 - 1 from rfl, Nat.and_two_pow_sub_one_eq_mod, IntKind.wrap_i64]
  omega
theorem bor128 (m : Nat) (h : m < 128) : bits BinOp.or IntKind.u8 (m : Int) 128 = ((m + 128 : Nat) : Int) := by
  have h1 : (BitVec.ofInt 8 (m : Int)).toNat = m := by rw [BitVec.ofInt_natCast, BitVec.toNat_ofNat]; omega
  show IntKind.u8.wrap ((BitVec.ofInt 8 (m : Int) ||| BitVec.ofInt 8 128).toNat : Int) = _
  rw [BitVec.toNat_or, h1, show (BitVec.ofInt 8 128).toNat = 1 <<< 7 from rfl, Nat.or_comm, ← Nat.shiftLeft_add_eq_or_of_lt (by omega : m < 2 ^ 7)]
  rw [show (1 : Nat) <<< 7 + m = m + 128 by simp; omega]
  have h2 : m + 128 < 256 := by omega
  generalize m + 128 = x at h2
  unfold IntKind.wrap
  simp [IntKind.bits, IntKind.signed]
  omega

theorem made_at (s j : Nat) (h : j < s) : (madeCells #[Value.int .u8 0] s)[j]? = some (.int .u8 0) := by
  simp [madeCells, h, Nat.mod_one]
theorem nb_zero (n : Nat) : nb n 0 = n % 128 := rfl
theorem nb_step (n q : Nat) : nb n (q + 1) = n / 128 ^ q / 128 % 128 + 128 := by
  rw [nb, if_neg (by omega), div_pow_step]
end Go.Proofs.Ytahfkcfbmklfpaa
