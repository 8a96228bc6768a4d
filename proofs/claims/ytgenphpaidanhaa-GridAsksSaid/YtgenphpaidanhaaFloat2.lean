/- Floats that stand for sixteenths: made of whole numbers, turned into whole numbers, halved; some constants. Condition: below 2^53 sixteenths. -/
import Derived.Test.YtgenphpaidanhaaFloat
namespace Go.Proofs.Ytgenphpaidanhaa
open Ieee

theorem FV.ofInt {n : Int} (h : n.natAbs < 562949953421312) : FV (floatOfInt .f64 n) (16 * n) := by
  show FV (double.nearest (n < 0) n.natAbs 0) (16 * n)
  by_cases h0 : n = 0
  · subst h0
    exact fv_zero _ _
  · refine fv_nearest (c := 60) (by omega) (by omega) ?_ (by omega) (by omega) ?_
    · by_cases hn : n < 0
      · rw [decide_eq_true hn, decide_eq_true (by omega)]
      · rw [decide_eq_false hn, decide_eq_false (by omega)]
    · rw [show ((0 : Int) + ((60 : Nat) : Int)).toNat = 60 from rfl, Int.natAbs_mul, show (16 : Int).natAbs = 16 from rfl]
      omega
theorem FV.c0 : FV 0 0 := ⟨false, 0, -1074, rfl, fun _ => ⟨rfl, by omega, by omega⟩, fun h => absurd rfl h⟩
theorem FV.c1 : FV 4607182418800017408 16 := ⟨false, 4503599627370496, -52, rfl, fun h => by omega, fun _ => ⟨by omega, by omega, rfl, rfl, by omega⟩⟩
theorem FV.c2 : FV 4611686018427387904 32 := ⟨false, 4503599627370496, -51, rfl, fun h => by omega, fun _ => ⟨by omega, by omega, rfl, rfl, by omega⟩⟩
theorem FV.cHalf : FV 4602678819172646912 8 := ⟨false, 4503599627370496, -53, rfl, fun h => by omega, fun _ => ⟨by omega, by omega, rfl, rfl, by omega⟩⟩
theorem FV.cQuarter : FV 4598175219545276416 4 := ⟨false, 4503599627370496, -54, rfl, fun h => by omega, fun _ => ⟨by omega, by omega, rfl, rfl, by omega⟩⟩
/-- Cut towards zero. -/
theorem cut_zero' (s : Bool) (n d : Nat) : Toward.zero.cut s n d = n / 2 ^ (min d (n.log2 + 2)) := by
  unfold Toward.cut
  simp only [Nat.one_shiftLeft]
  rfl
theorem FV.toInt {x : Nat} {z : Int} (hx : FV x z) (hz : z.natAbs < 9007199254740992) : floatToIntVal .f64 x .i64 = some (z.tdiv 16) := by
  obtain ⟨s, m, e, r, h0, h1⟩ := hx
  have hd : (double.read x).toInt .zero = some (z.tdiv 16) := by
    rw [r]
    show some (signed s (Toward.zero.cut s (m <<< e.toNat) (-e).toNat) 0) = _
    congr 1
    rw [cut_zero']
    by_cases hz0 : z = 0
    · rw [(h0 hz0).1, hz0]
      unfold signed
      cases s <;> simp
    · obtain ⟨g1, g2, g3, g4, g5⟩ := h1 hz0
      have key : m <<< e.toNat / 2 ^ min (-e).toNat ((m <<< e.toNat).log2 + 2) = z.natAbs / 16 := by
        rcases Int.le_total 0 e with he | he
        · rw [show (-e).toNat = 0 by omega, Nat.zero_min, Nat.pow_zero, Nat.div_one, Nat.shiftLeft_eq]
          have : m * 2 ^ e.toNat * 2 ^ 60 = z.natAbs * 2 ^ 56 := by rw [Nat.mul_assoc, ← Nat.pow_add, show e.toNat + 60 = (e + 60).toNat by omega, g3]
          omega
        · rw [show e.toNat = 0 by omega, Nat.shiftLeft_zero]
          obtain ⟨d, hd⟩ : ∃ d, (-e).toNat = d := ⟨_, rfl⟩
          rw [hd]
          have hm : m * 2 ^ (60 - d) = z.natAbs * 2 ^ 56 := by rw [show 60 - d = (e + 60).toNat by omega, g3]
          have hm16 : m * 2 ^ 60 = z.natAbs * 2 ^ 56 * 2 ^ d := by rw [← hm, Nat.mul_assoc, ← Nat.pow_add, show 60 - d + d = 60 by omega]
          have hq : m / 2 ^ d = z.natAbs / 16 := by
            have e1 : m / 2 ^ d = m * 2 ^ 60 / (2 ^ d * 2 ^ 60) := (Nat.mul_div_mul_right _ _ (two_pos 60)).symm
            rw [e1, hm16, Nat.mul_comm (2 ^ d) (2 ^ 60), Nat.mul_div_mul_right _ _ (two_pos d)]
            omega
          rcases Nat.le_total d (m.log2 + 2) with hle | hle
          · rw [Nat.min_eq_left hle, hq]
          · rw [Nat.min_eq_right hle, ← hq]
            have l2 : m < 2 ^ (m.log2 + 1) := Nat.lt_log2_self
            rw [Nat.div_eq_of_lt (Nat.lt_trans l2 (Nat.pow_lt_pow_right (by omega) (by omega))), Nat.div_eq_of_lt (Nat.lt_of_lt_of_le l2 (Nat.pow_le_pow_right (by omega) (by omega)))]
      rw [key]
      unfold signed
      rw [Nat.shiftLeft_zero]
      by_cases hn : z < 0
      · rw [g4, decide_eq_true hn]
        simp only [if_true]
        rw [show z = -(z.natAbs : Int) by omega, Int.neg_tdiv, Int.natAbs_neg, Int.natAbs_natCast]
        congr 1
      · rw [g4, decide_eq_false hn]
        simp only [Bool.false_eq_true, if_false]
        rw [show z = (z.natAbs : Int) by omega, Int.natAbs_natCast]
        rfl
  unfold floatToIntVal
  rw [show FloatKind.f64.decode x = double.read x from rfl, hd]
  have h2 : z.tdiv 16 = Int.tdiv z 16 := rfl
  have hb : (z.tdiv 16).natAbs ≤ z.natAbs := by rw [Int.natAbs_tdiv]; exact Nat.div_le_self _ _
  have hmin : IntKind.i64.min = -9223372036854775808 := rfl
  have hmax : IntKind.i64.max = 9223372036854775807 := rfl
  simp only [hmin, hmax]
  rw [if_pos (by omega)]
/-- The half of an even number. -/
theorem FV.half {x : Nat} {z q : Int} (hx : FV x z) (hq : z = 2 * q) (hz : z.natAbs < 9007199254740992) : ∃ r, floatBits .quo .f64 x 4611686018427387904 = some r ∧ FV r q := by
  obtain ⟨s, m, e, r, h0, h1⟩ := hx
  have r2 : double.read 4611686018427387904 = .number false 4503599627370496 (-51) := rfl
  obtain ⟨L, hL⟩ : ∃ L, 54 + (4503599627370496 : Nat).log2 - m.log2 = L := ⟨_, rfl⟩
  have hdiv : floatBits .quo .f64 x 4611686018427387904 = some (double.nearest (s ^^ false) (2 * (m <<< L / 4503599627370496) + (m <<< L % 4503599627370496 != 0).toNat) (e - (-51) - L - 1)) := by
    show ((double.read x).quotient 54 (double.read 4611686018427387904)).map double.write = _
    rw [r, r2]
    have hq0 : (Datum.number s m e).quotient 54 (.number false 4503599627370496 (-51)) = some (.number (s ^^ false) (2 * (m <<< (54 + (4503599627370496 : Nat).log2 - m.log2) / 4503599627370496) + (m <<< (54 + (4503599627370496 : Nat).log2 - m.log2) % 4503599627370496 != 0).toNat) (e - (-51) - (54 + (4503599627370496 : Nat).log2 - m.log2 : Nat) - 1)) := by
      rfl
    rw [hq0, hL]
    rfl
  refine ⟨_, hdiv, ?_⟩
  by_cases hz0 : z = 0
  · have : q = 0 := by omega
    rw [(h0 hz0).1, this, Nat.zero_shiftLeft]
    exact fv_zero _ _
  · obtain ⟨g1, g2, g3, g4, g5⟩ := h1 hz0
    have hm0 : m ≠ 0 := fun h => by rw [h, Nat.zero_mul] at g3; have := Nat.mul_pos (show 0 < z.natAbs by omega) (two_pos 56); omega
    have l52 : (4503599627370496 : Nat).log2 = 52 := rfl
    have hmb : m.log2 ≤ 52 := by
      rcases Nat.lt_or_ge 52 m.log2 with h | h
      · have a1 : 2 ^ 53 ≤ m := Nat.le_trans (Nat.pow_le_pow_right (by omega) h) (Nat.log2_self_le hm0)
        have : (2 : Nat) ^ 53 = 9007199254740992 := rfl
        omega
      · exact h
    have hL54 : 54 ≤ L := by omega
    have hL2 : L ≤ 106 := by omega
    have e1 : m <<< L = m * 2 ^ (L - 52) * 4503599627370496 := by
      rw [Nat.shiftLeft_eq, Nat.mul_assoc, show (4503599627370496 : Nat) = 2 ^ 52 from rfl, ← Nat.pow_add, show L - 52 + 52 = L by omega]
    have e2 : 2 * (m <<< L / 4503599627370496) + (m <<< L % 4503599627370496 != 0).toNat = m * 2 ^ (L - 51) := by
      rw [e1, Nat.mul_div_cancel _ (by omega), Nat.mul_mod_left, show L - 51 = L - 52 + 1 by omega, Nat.pow_succ]
      show 2 * (m * 2 ^ (L - 52)) + 0 = _
      rw [Nat.add_zero, ← Nat.mul_assoc, Nat.mul_comm 2 m, Nat.mul_assoc, Nat.mul_comm 2]
    rw [e2, Bool.xor_false]
    refine fv_nearest (c := 200) (by omega) (by omega) ?_ (by omega) (by omega) ?_
    · rw [g4]
      by_cases hn : z < 0
      · rw [decide_eq_true hn, decide_eq_true (by omega)]
      · rw [decide_eq_false hn, decide_eq_false (by omega)]
    · have hq2 : z.natAbs = 2 * q.natAbs := by omega
      have : m * 2 ^ (L - 51) * 2 ^ (e - -51 - (L : Int) - 1 + ((200 : Nat) : Int)).toNat = m * 2 ^ (e + 60).toNat * 2 ^ 139 := by
        rw [Nat.mul_assoc, Nat.mul_assoc, ← Nat.pow_add, ← Nat.pow_add]
        congr 2
        omega
      rw [this, g3, hq2, Nat.mul_comm 2, Nat.mul_assoc, Nat.mul_assoc]
end Go.Proofs.Ytgenphpaidanhaa
