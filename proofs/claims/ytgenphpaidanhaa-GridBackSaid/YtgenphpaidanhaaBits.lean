/- Masks and sums of bits, as '&' and '|' of the run make them. Conditions: as each states. -/
import Derived.Test.YtgenphpaidanhaaBy
namespace Go.Proofs.Ytgenphpaidanhaa
open Go.RowKit Go.Deep

theorem band_low (c j : Nat) (hc : c < 256) (hj : j ≤ 8) : bits BinOp.and IntKind.u8 (c : Int) ((2 ^ j - 1 : Nat) : Int) = ((c % 2 ^ j : Nat) : Int) := by
  have h1 : (BitVec.ofInt 8 (c : Int)).toNat = c := by rw [BitVec.ofInt_natCast, BitVec.toNat_ofNat]; omega
  have hp : 2 ^ j ≤ 2 ^ 8 := Nat.pow_le_pow_right (by omega) hj
  have h2 : (BitVec.ofInt 8 ((2 ^ j - 1 : Nat) : Int)).toNat = 2 ^ j - 1 := by rw [BitVec.ofInt_natCast, BitVec.toNat_ofNat, Nat.mod_eq_of_lt (by omega)]
  show IntKind.u8.wrap ((BitVec.ofInt 8 (c : Int) &&& BitVec.ofInt 8 ((2 ^ j - 1 : Nat) : Int)).toNat : Int) = _
  rw [BitVec.toNat_and, h1, h2, Nat.and_two_pow_sub_one_eq_mod]
  have h3 : c % 2 ^ j ≤ c := Nat.mod_le _ _
  generalize c % 2 ^ j = x at h3
  unfold IntKind.wrap
  simp [IntKind.bits, IntKind.signed]
  omega
theorem bor6 (a d : Nat) (ha : a < 32768) : bits BinOp.or IntKind.i64 ((a : Int) * 64) ((d : Int) % 64) = ((a * 64 + d % 64 : Nat) : Int) := by
  have e : ((d : Int) % 64) = ((d % 64 : Nat) : Int) := by omega
  rw [e]
  have hm : d % 64 < 64 := Nat.mod_lt _ (by omega)
  generalize d % 64 = m at hm
  have h1 : (BitVec.ofInt 64 ((a : Int) * 64)).toNat = a * 64 := by
    rw [show ((a : Int) * 64) = ((a * 64 : Nat) : Int) by omega, BitVec.ofInt_natCast, BitVec.toNat_ofNat]; omega
  have h2 : (BitVec.ofInt 64 (m : Int)).toNat = m := by rw [BitVec.ofInt_natCast, BitVec.toNat_ofNat]; omega
  show IntKind.i64.wrap ((BitVec.ofInt 64 ((a : Int) * 64) ||| BitVec.ofInt 64 (m : Int)).toNat : Int) = _
  rw [BitVec.toNat_or, h1, h2, show a * 64 = a <<< 6 by rw [Nat.shiftLeft_eq], ← Nat.shiftLeft_add_eq_or_of_lt (by omega : m < 2 ^ 6), Nat.shiftLeft_eq, IntKind.wrap_i64]
  omega

theorem band64 (c j : Nat) (hc : c < 256) (hj : j ≤ 8) : bits BinOp.and IntKind.i64 (c : Int) ((2 ^ j - 1 : Nat) : Int) = ((c % 2 ^ j : Nat) : Int) := by
  have h1 : (BitVec.ofInt 64 (c : Int)).toNat = c := by rw [BitVec.ofInt_natCast, BitVec.toNat_ofNat]; omega
  have hp : 2 ^ j ≤ 2 ^ 8 := Nat.pow_le_pow_right (by omega) hj
  have h2 : (BitVec.ofInt 64 ((2 ^ j - 1 : Nat) : Int)).toNat = 2 ^ j - 1 := by rw [BitVec.ofInt_natCast, BitVec.toNat_ofNat, Nat.mod_eq_of_lt (by omega)]
  show IntKind.i64.wrap ((BitVec.ofInt 64 (c : Int) &&& BitVec.ofInt 64 ((2 ^ j - 1 : Nat) : Int)).toNat : Int) = _
  rw [BitVec.toNat_and, h1, h2, Nat.and_two_pow_sub_one_eq_mod, IntKind.wrap_i64]
  have h3 : c % 2 ^ j ≤ c := Nat.mod_le _ _
  omega
theorem band64w (c j : Nat) (hc : c < 4294967296) (hj : j ≤ 8) : bits BinOp.and IntKind.i64 (c : Int) ((2 ^ j - 1 : Nat) : Int) = ((c % 2 ^ j : Nat) : Int) := by
  have h1 : (BitVec.ofInt 64 (c : Int)).toNat = c := by rw [BitVec.ofInt_natCast, BitVec.toNat_ofNat]; omega
  have hp : 2 ^ j ≤ 2 ^ 8 := Nat.pow_le_pow_right (by omega) hj
  have h2 : (BitVec.ofInt 64 ((2 ^ j - 1 : Nat) : Int)).toNat = 2 ^ j - 1 := by rw [BitVec.ofInt_natCast, BitVec.toNat_ofNat, Nat.mod_eq_of_lt (by omega)]
  show IntKind.i64.wrap ((BitVec.ofInt 64 (c : Int) &&& BitVec.ofInt 64 ((2 ^ j - 1 : Nat) : Int)).toNat : Int) = _
  rw [BitVec.toNat_and, h1, h2, Nat.and_two_pow_sub_one_eq_mod, IntKind.wrap_i64]
  have h3 : c % 2 ^ j ≤ c := Nat.mod_le _ _
  omega
theorem bor_add (q j m : Nat) (hm : m < 2 ^ j) (hq : q * 2 ^ j ≤ 255) (hj : j ≤ 8) : bits BinOp.or IntKind.i64 ((q * 2 ^ j : Nat) : Int) (m : Int) = ((q * 2 ^ j + m : Nat) : Int) := by
  have hp : 2 ^ j ≤ 2 ^ 8 := Nat.pow_le_pow_right (by omega) hj
  have h1 : (BitVec.ofInt 64 ((q * 2 ^ j : Nat) : Int)).toNat = q * 2 ^ j := by rw [BitVec.ofInt_natCast, BitVec.toNat_ofNat]; omega
  have h2 : (BitVec.ofInt 64 (m : Int)).toNat = m := by rw [BitVec.ofInt_natCast, BitVec.toNat_ofNat]; omega
  show IntKind.i64.wrap ((BitVec.ofInt 64 ((q * 2 ^ j : Nat) : Int) ||| BitVec.ofInt 64 (m : Int)).toNat : Int) = _
  rw [BitVec.toNat_or, h1, h2, ← Nat.shiftLeft_eq, ← Nat.shiftLeft_add_eq_or_of_lt hm, Nat.shiftLeft_eq, IntKind.wrap_i64]
  omega
theorem or128 (m : Nat) (h : m < 64) : bits BinOp.or IntKind.i64 128 (m : Int) = ((128 + m : Nat) : Int) := bor_add 2 6 m h (by omega) (by omega)
theorem or192 (m : Nat) (h : m < 32) : bits BinOp.or IntKind.i64 192 (m : Int) = ((192 + m : Nat) : Int) := bor_add 6 5 m h (by omega) (by omega)
theorem or224 (m : Nat) (h : m < 16) : bits BinOp.or IntKind.i64 224 (m : Int) = ((224 + m : Nat) : Int) := bor_add 14 4 m h (by omega) (by omega)
theorem or240 (m : Nat) (h : m < 8) : bits BinOp.or IntKind.i64 240 (m : Int) = ((240 + m : Nat) : Int) := bor_add 30 3 m h (by omega) (by omega)
theorem and63 (c : Nat) (h : c < 4294967296) : bits BinOp.and IntKind.i64 (c : Int) 63 = ((c % 64 : Nat) : Int) := band64w c 6 h (by omega)
end Go.Proofs.Ytgenphpaidanhaa
