/- Floats far from nought: what whole numbers beyond 2^48 are rounded to stays far from nought, with its sign, through a product by one, a sum with a place, and a comparison with one. No condition beyond those that each lemma states. -/
import Derived.Test.YtgenphpaidanhaaFloat2
namespace Go.Proofs.Ytgenphpaidanhaa
open Ieee

/-- The float with bits b is a number with the sign s, from 2^lo on, below 2^(hi+1). -/
def BV (b : Nat) (s : Bool) (lo hi : Int) : Prop := ∃ m e, double.read b = .number s m e ∧ 4503599627370496 ≤ m ∧ m < 9007199254740992 ∧ lo ≤ e + 52 ∧ e + 52 ≤ hi
theorem BV.mono {b : Nat} {s : Bool} {lo hi lo' hi' : Int} (h : BV b s lo hi) (h1 : lo' ≤ lo) (h2 : hi ≤ hi') : BV b s lo' hi' := by
  obtain ⟨m, e, r, a1, a2, a3, a4⟩ := h
  exact ⟨m, e, r, a1, a2, by omega, by omega⟩
theorem cut_bounds (s : Bool) {n d : Nat} (h : d ≤ n.log2 + 2) : n / 2 ^ d ≤ Toward.even.cut s n d ∧ Toward.even.cut s n d ≤ n / 2 ^ d + 1 := by
  unfold Toward.cut
  rw [Nat.min_eq_left h, Nat.one_shiftLeft]
  simp only
  have hb : ∀ b : Bool, b.toNat ≤ 1 := fun b => by cases b <;> simp
  constructor
  · exact Nat.le_add_right _ _
  · exact Nat.add_le_add_left (hb _) _
theorem nearest_big (s : Bool) {m : Nat} {e lo hi : Int} (hm : m ≠ 0) (h1 : lo ≤ (m.log2 : Int) + e) (h2 : (m.log2 : Int) + e ≤ hi) (h3 : 0 ≤ lo) (h4 : hi ≤ 100) : BV (double.nearest s m e) s lo (hi + 1) := by
  obtain ⟨L, hL⟩ : ∃ L, m.log2 = L := ⟨_, rfl⟩
  have l1 : 2 ^ L ≤ m := hL ▸ Nat.log2_self_le hm
  have l2 : m < 2 ^ (L + 1) := hL ▸ Nat.lt_log2_self
  rw [hL] at h1 h2
  have hlast : max (e + (L : Int) - 52) (-1074) = e + (L : Int) - 52 := by omega
  obtain ⟨last, hla⟩ : ∃ last, e + (L : Int) - 52 = last := ⟨_, rfl⟩
  obtain ⟨K, hK⟩ : ∃ K, Toward.even.cut s (m <<< (e - last).toNat) (last - e).toNat = K := ⟨_, rfl⟩
  have hKb : 4503599627370496 ≤ K ∧ K ≤ 9007199254740992 := by
    rw [← hK]
    rcases Nat.le_total L 52 with hle | hle
    · rw [show (last - e).toNat = 0 by omega, show (e - last).toNat = 52 - L by omega, Nat.shiftLeft_eq]
      have c := cut_bounds s (n := m * 2 ^ (52 - L)) (d := 0) (Nat.zero_le _)
      rw [Nat.pow_zero, Nat.div_one] at c
      have k1 : 4503599627370496 ≤ m * 2 ^ (52 - L) := by
        have := Nat.mul_le_mul_right (2 ^ (52 - L)) l1
        rw [← Nat.pow_add, show L + (52 - L) = 52 by omega] at this
        exact this
      have k2 : m * 2 ^ (52 - L) < 9007199254740992 := by
        have := Nat.mul_lt_mul_of_pos_right l2 (two_pos (52 - L))
        rw [← Nat.pow_add, show L + 1 + (52 - L) = 53 by omega] at this
        exact this
      omega
    · obtain ⟨d, hd⟩ : ∃ d, (last - e).toNat = d := ⟨_, rfl⟩
      rw [hd, show (e - last).toNat = 0 by omega, Nat.shiftLeft_zero]
      have c := cut_bounds s (n := m) (d := d) (by omega)
      have hdl : d = L - 52 := by omega
      have k1 : 4503599627370496 ≤ m / 2 ^ d := by
        rw [Nat.le_div_iff_mul_le (two_pos d)]
        have : (4503599627370496 : Nat) * 2 ^ d = 2 ^ L := by
          rw [show (4503599627370496 : Nat) = 2 ^ 52 from rfl, ← Nat.pow_add, show 52 + d = L by omega]
        omega
      have k2 : m / 2 ^ d < 9007199254740992 := by
        rw [Nat.div_lt_iff_lt_mul (two_pos d)]
        have : (9007199254740992 : Nat) * 2 ^ d = 2 ^ (L + 1) := by
          rw [show (9007199254740992 : Nat) = 2 ^ 53 from rfl, ← Nat.pow_add, show 53 + d = L + 1 by omega]
        omega
      omega
  have hn : double.nearest s m e = double.word s ((last + 1074).toNat * 4503599627370496 + K) := by
    unfold Format.nearest
    rw [if_neg hm, dbl_least, dbl_frac, hL]
    show double.word s (min ((max (e + (L : Int) - 52) (-1074) - (-1074)).toNat * double.binade + Toward.even.cut s (m <<< (e - max (e + (L : Int) - 52) (-1074)).toNat) (max (e + (L : Int) - 52) (-1074) - e).toNat) double.infRung) = _
    rw [hlast, hla, hK, dbl_binade, dbl_inf, show (last - -1074) = last + 1074 by omega, Nat.min_eq_left (by omega)]
  rw [hn]
  by_cases hk : K = 9007199254740992
  · subst hk
    refine ⟨4503599627370496, last + 1, ?_, by omega, by omega, by omega, by omega⟩
    rw [show (last + 1074).toNat * 4503599627370496 + 9007199254740992 = (last + 1 + 1074).toNat * 4503599627370496 + 4503599627370496 by omega]
    exact read_word (by omega) (by omega) (by omega) (by omega)
  · exact ⟨K, last, read_word hKb.1 (by omega) (by omega) (by omega), hKb.1, by omega, by omega, by omega⟩
theorem log2_eq {n k : Nat} (h1 : 2 ^ k ≤ n) (h2 : n < 2 ^ (k + 1)) : n.log2 = k := by
  have hn : n ≠ 0 := by have := two_pos k; omega
  have a1 := (Nat.le_log2 hn).2 h1
  have a2 := (Nat.log2_lt hn).2 h2
  omega
theorem BV.ofInt {n : Int} (h : 281474976710656 ≤ n.natAbs) (h2 : n.natAbs ≤ 9223372036854775808) : BV (floatOfInt .f64 n) (decide (n < 0)) 48 64 := by
  show BV (double.nearest (n < 0) n.natAbs 0) (decide (n < 0)) 48 64
  have hn : n.natAbs ≠ 0 := by omega
  have a1 : 48 ≤ n.natAbs.log2 := (Nat.le_log2 hn).2 h
  have a2 : n.natAbs.log2 < 64 := (Nat.log2_lt hn).2 (by have : (2 : Nat) ^ 64 = 18446744073709551616 := rfl; omega)
  exact (nearest_big _ hn (lo := 48) (hi := 63) (by omega) (by omega) (by omega) (by omega)).mono (by omega) (by omega)
theorem BV.pos {m : Nat} (h : 4503599627370496 ≤ m) : m ≠ 0 := by omega
theorem log2_shift {m : Nat} (h1 : 4503599627370496 ≤ m) (h2 : m < 9007199254740992) (k : Nat) : (m * 2 ^ k).log2 = 52 + k := by
  refine log2_eq ?_ ?_
  · rw [Nat.pow_add]; exact Nat.mul_le_mul_right _ h1
  · rw [show 52 + k + 1 = 53 + k by omega, Nat.pow_add]; exact Nat.mul_lt_mul_of_pos_right h2 (two_pos k)
/-- A product by one. -/
theorem BV.mul_one {x : Nat} {s : Bool} {lo hi : Int} (hx : BV x s lo hi) (h0 : 0 ≤ lo) (h1 : hi ≤ 90) : ∃ r, floatBits .mul .f64 x 4607182418800017408 = some r ∧ BV r s lo (hi + 1) := by
  obtain ⟨m, e, r, a1, a2, a3, a4⟩ := hx
  refine ⟨double.nearest (s ^^ false) (m * 4503599627370496) (e + -52), ?_, ?_⟩
  · show ((double.read x).product (double.read 4607182418800017408)).map double.write = _
    rw [r, show double.read 4607182418800017408 = .number false 4503599627370496 (-52) from rfl]
    rfl
  · have hl := log2_shift a1 a2 52
    rw [show (2 : Nat) ^ 52 = 4503599627370496 from rfl] at hl
    rw [Bool.xor_false]
    exact nearest_big s (by omega) (by rw [hl]; omega) (by rw [hl]; omega) h0 (by omega)
theorem signed_natAbs (s : Bool) (m k : Nat) : (signed s m k).natAbs = m * 2 ^ k := by
  unfold signed
  rw [Nat.shiftLeft_eq]
  cases s
  · simp only [Bool.false_eq_true, if_false]; omega
  · simp only [if_true]; omega
theorem signed_sign (s : Bool) {m : Nat} (h : m ≠ 0) (k : Nat) : decide (signed s m k < 0) = s ∧ signed s m k ≠ 0 := by
  have hp : 0 < m * 2 ^ k := Nat.mul_pos (by omega) (two_pos k)
  unfold signed
  rw [Nat.shiftLeft_eq]
  cases s
  · simp only [Bool.false_eq_true, if_false]
    exact ⟨decide_eq_false (by omega), by omega⟩
  · simp only [if_true]
    exact ⟨decide_eq_true (by omega), by omega⟩
/-- A sum with a place: a far one stays far. -/
theorem sum_bv {s t : Bool} {m n : Nat} {i j a lo hi : Int} (ha0 : a = 0 → m = 0 ∧ -1074 ≤ i ∧ i ≤ 60) (ha1 : a ≠ 0 → FNum s m i a)
    (b1 : 4503599627370496 ≤ n) (b2 : n < 9007199254740992) (b3 : lo ≤ j + 52) (b4 : j + 52 ≤ hi) (h1 : 45 ≤ lo) (h2 : hi ≤ 90) (hab : a.natAbs ≤ 17592186044416) :
    ∃ d, (Datum.number s m i).sum (.number t n j) = some d ∧ BV (double.write d) t (lo - 1) (hi + 2) := by
  have hi' := e_low ha0 ha1
  refine ⟨_, rfl, ?_⟩
  obtain ⟨base, hbs⟩ : ∃ base, min i j = base := ⟨_, rfl⟩
  simp only [Format.write, hbs]
  obtain ⟨c, hc⟩ : ∃ c : Nat, c = 1200 := ⟨_, rfl⟩
  have v1 := signed_val c (by omega) ha0 ha1 (base := base) (by omega) (by omega)
  have sg := signed_sign t (BV.pos b1) (j - base).toNat
  have na := signed_natAbs t n (j - base).toNat
  obtain ⟨A, hA⟩ : ∃ A, signed s m (i - base).toNat = A := ⟨_, rfl⟩
  obtain ⟨B, hB⟩ : ∃ B, signed t n (j - base).toNat = B := ⟨_, rfl⟩
  rw [hA] at v1
  rw [hB] at sg na
  rw [hA, hB]
  obtain ⟨q, hq⟩ : ∃ q, (base + c).toNat = q := ⟨_, rfl⟩
  rw [hq] at v1
  -- |A| 2^q = |a| 2^(c-4), |B| 2^q = n 2^(j+c)
  have w1 : A.natAbs * 2 ^ q = a.natAbs * 2 ^ (c - 4) := by
    have := congrArg Int.natAbs v1
    rw [Int.natAbs_mul, Int.natAbs_mul, Int.natAbs_natCast, Int.natAbs_natCast] at this
    exact this
  have w2 : B.natAbs * 2 ^ q = n * 2 ^ (j + c).toNat := by
    rw [na, Nat.mul_assoc, ← Nat.pow_add, show (j - base).toNat + q = (j + c).toNat by omega]
  -- in units of 2^(c+44-4)
  have u1 : A.natAbs * 2 ^ q ≤ 2 ^ (c + 40) := by
    rw [w1]
    have := Nat.mul_le_mul_right (2 ^ (c - 4)) hab
    rw [show (17592186044416 : Nat) = 2 ^ 44 from rfl, ← Nat.pow_add, show 44 + (c - 4) = c + 40 by omega] at this
    exact this
  obtain ⟨k, hk⟩ : ∃ k : Nat, (j + 52 + c).toNat = k := ⟨_, rfl⟩
  have u2 : 2 ^ k ≤ B.natAbs * 2 ^ q := by
    rw [w2]
    have := Nat.mul_le_mul_right (2 ^ (j + c).toNat) b1
    rw [show (4503599627370496 : Nat) = 2 ^ 52 from rfl, ← Nat.pow_add, show 52 + (j + c).toNat = k by omega] at this
    exact this
  have u3 : B.natAbs * 2 ^ q < 2 ^ (k + 1) := by
    rw [w2]
    have := Nat.mul_lt_mul_of_pos_right b2 (two_pos (j + c).toNat)
    rw [show (9007199254740992 : Nat) = 2 ^ 53 from rfl, ← Nat.pow_add, show 53 + (j + c).toNat = k + 1 by omega] at this
    exact this
  have u4 : 2 * 2 ^ (c + 40) ≤ 2 ^ k := by
    rw [← Nat.pow_succ']
    exact Nat.pow_le_pow_right (by omega) (by omega)
  -- T = A + B
  obtain ⟨T, hT⟩ : ∃ T, A + B = T := ⟨_, rfl⟩
  rw [hT]
  have hq0 := two_pos q
  have hAB : A.natAbs * 2 ^ q + A.natAbs * 2 ^ q ≤ B.natAbs * 2 ^ q := by omega
  have hAB' : A.natAbs + A.natAbs ≤ B.natAbs := by
    rw [← Nat.add_mul] at hAB
    exact Nat.le_of_mul_le_mul_right hAB hq0
  have hB0 : B ≠ 0 := sg.2
  have hT0 : T ≠ 0 := by omega
  have hTs : decide (T < 0) = t := by
    rw [← sg.1]
    by_cases hb : B < 0
    · rw [decide_eq_true hb, decide_eq_true (by omega)]
    · rw [decide_eq_false hb, decide_eq_false (by omega)]
  rw [if_neg hT0, hTs]
  have t1 : B.natAbs ≤ 2 * T.natAbs := by omega
  have t2 : T.natAbs ≤ 2 * B.natAbs := by omega
  have r1 : 2 ^ k ≤ 2 * T.natAbs * 2 ^ q := Nat.le_trans u2 (Nat.mul_le_mul_right _ t1)
  have r2 : T.natAbs * 2 ^ q < 2 ^ (k + 2) := by
    have := Nat.mul_le_mul_right (2 ^ q) t2
    rw [Nat.mul_assoc] at this
    rw [Nat.pow_succ 2 (k + 1)]
    omega
  have hn : T.natAbs ≠ 0 := by omega
  obtain ⟨L, hL⟩ : ∃ L, T.natAbs.log2 = L := ⟨_, rfl⟩
  have l1 : 2 ^ L ≤ T.natAbs := hL ▸ Nat.log2_self_le hn
  have l2 : T.natAbs < 2 ^ (L + 1) := hL ▸ Nat.lt_log2_self
  have e1 : L + q < k + 2 := by
    have : 2 ^ (L + q) < 2 ^ (k + 2) := by
      rw [Nat.pow_add]
      exact Nat.lt_of_le_of_lt (Nat.mul_le_mul_right _ l1) r2
    exact (Nat.pow_lt_pow_iff_right (by omega)).1 this
  have e2 : k < L + q + 2 := by
    have : 2 ^ k < 2 ^ (L + q + 2) := by
      have := Nat.mul_lt_mul_of_pos_right l2 hq0
      rw [← Nat.pow_add] at this
      rw [show L + q + 2 = L + 1 + q + 1 by omega, Nat.pow_succ]
      rw [Nat.mul_assoc] at r1
      omega
    exact (Nat.pow_lt_pow_iff_right (by omega)).1 this
  refine (nearest_big t hn (lo := lo - 1) (hi := hi + 1) ?_ ?_ (by omega) (by omega)).mono (by omega) (by omega) <;> rw [hL] <;> omega
theorem BV.add {x y : Nat} {a lo hi : Int} {t : Bool} (hx : FV x a) (hy : BV y t lo hi) (h1 : 45 ≤ lo) (h2 : hi ≤ 90) (hab : a.natAbs ≤ 17592186044416) : ∃ r, floatBits .add .f64 x y = some r ∧ BV r t (lo - 1) (hi + 2) := by
  obtain ⟨s, m, i, r1, ha0, ha1⟩ := hx
  obtain ⟨n, j, r2, b1, b2, b3, b4⟩ := hy
  obtain ⟨d, g1, g2⟩ := sum_bv (t := t) ha0 ha1 b1 b2 b3 b4 h1 h2 hab
  refine ⟨double.write d, ?_, g2⟩
  show ((double.read x).sum (double.read y)).map double.write = _
  rw [r1, r2, g1]
  rfl
theorem sum_comm (s t : Bool) (m n : Nat) (i j : Int) : (Datum.number s m i).sum (.number t n j) = (Datum.number t n j).sum (.number s m i) := by
  show some (Datum.number _ _ _) = some (Datum.number _ _ _)
  rw [Int.min_comm j i, Int.add_comm (signed t n _), Bool.and_comm t s]
theorem BV.add' {x y : Nat} {a lo hi : Int} {t : Bool} (hx : BV x t lo hi) (hy : FV y a) (h1 : 45 ≤ lo) (h2 : hi ≤ 90) (hab : a.natAbs ≤ 17592186044416) : ∃ r, floatBits .add .f64 x y = some r ∧ BV r t (lo - 1) (hi + 2) := by
  obtain ⟨s, m, i, r1, ha0, ha1⟩ := hy
  obtain ⟨n, j, r2, b1, b2, b3, b4⟩ := hx
  obtain ⟨d, g1, g2⟩ := sum_bv (t := t) ha0 ha1 b1 b2 b3 b4 h1 h2 hab
  refine ⟨double.write d, ?_, g2⟩
  show ((double.read x).sum (double.read y)).map double.write = _
  rw [r1, r2, sum_comm, g1]
  rfl
theorem BV.sub' {x y : Nat} {a lo hi : Int} {t : Bool} (hx : BV x t lo hi) (hy : FV y a) (h1 : 45 ≤ lo) (h2 : hi ≤ 90) (hab : a.natAbs ≤ 17592186044416) : ∃ r, floatBits .sub .f64 x y = some r ∧ BV r t (lo - 1) (hi + 2) := by
  obtain ⟨s, m, i, r1, ha0, ha1⟩ := hy
  obtain ⟨n, j, r2, b1, b2, b3, b4⟩ := hx
  obtain ⟨d, g1, g2⟩ := sum_bv (s := !s) (t := t) (a := -a) (fun h => ha0 (by omega)) (fun h => by
    obtain ⟨g1, g2, g3, g4, g5⟩ := ha1 (by omega)
    refine ⟨g1, g2, by rw [Int.natAbs_neg]; exact g3, ?_, g5⟩
    rw [g4]
    by_cases hb : a < 0
    · rw [decide_eq_true hb, decide_eq_false (by omega)]; rfl
    · rw [decide_eq_false hb, decide_eq_true (by omega)]; rfl) b1 b2 b3 b4 h1 h2 (by rw [Int.natAbs_neg]; exact hab)
  refine ⟨double.write d, ?_, g2⟩
  show ((double.read x).sum (double.read y).opposite).map double.write = _
  rw [r1, r2]
  show ((Datum.number t n j).sum (.number (!s) m i)).map double.write = _
  rw [sum_comm, g1]
  rfl
/-- A far one against a place. -/
theorem BV.order {x y : Nat} {a lo hi : Int} {t : Bool} (hx : BV x t lo hi) (hy : FV y a) (h1 : 45 ≤ lo) (h2 : hi ≤ 90) (hab : a.natAbs ≤ 17592186044416) : double.order x y = some (if t then .lt else .gt) := by
  obtain ⟨s, m, i, r1, ha0, ha1⟩ := hy
  obtain ⟨n, j, r2, b1, b2, b3, b4⟩ := hx
  have hi' := e_low ha0 ha1
  show (double.read x).order (double.read y) = _
  rw [r1, r2]
  obtain ⟨base, hbs⟩ : ∃ base, min j i = base := ⟨_, rfl⟩
  show some (compare (signed t n (j - min j i).toNat) (signed s m (i - min j i).toNat)) = _
  rw [hbs]
  obtain ⟨c, hc⟩ : ∃ c : Nat, c = 1200 := ⟨_, rfl⟩
  have v1 := signed_val c (by omega) ha0 ha1 (base := base) (by omega) (by omega)
  have sg := signed_sign t (BV.pos b1) (j - base).toNat
  have na := signed_natAbs t n (j - base).toNat
  obtain ⟨A, hA⟩ : ∃ A, signed s m (i - base).toNat = A := ⟨_, rfl⟩
  obtain ⟨B, hB⟩ : ∃ B, signed t n (j - base).toNat = B := ⟨_, rfl⟩
  rw [hA] at v1
  rw [hB] at sg na
  rw [hA, hB]
  obtain ⟨q, hq⟩ : ∃ q, (base + c).toNat = q := ⟨_, rfl⟩
  rw [hq] at v1
  have w1 : A.natAbs * 2 ^ q = a.natAbs * 2 ^ (c - 4) := by
    have := congrArg Int.natAbs v1
    rw [Int.natAbs_mul, Int.natAbs_mul, Int.natAbs_natCast, Int.natAbs_natCast] at this
    exact this
  have w2 : B.natAbs * 2 ^ q = n * 2 ^ (j + c).toNat := by
    rw [na, Nat.mul_assoc, ← Nat.pow_add, show (j - base).toNat + q = (j + c).toNat by omega]
  have u1 : A.natAbs * 2 ^ q ≤ 2 ^ (c + 40) := by
    rw [w1]
    have := Nat.mul_le_mul_right (2 ^ (c - 4)) hab
    rw [show (17592186044416 : Nat) = 2 ^ 44 from rfl, ← Nat.pow_add, show 44 + (c - 4) = c + 40 by omega] at this
    exact this
  have u2 : 2 ^ (j + 52 + c).toNat ≤ B.natAbs * 2 ^ q := by
    rw [w2]
    have := Nat.mul_le_mul_right (2 ^ (j + c).toNat) b1
    rw [show (4503599627370496 : Nat) = 2 ^ 52 from rfl, ← Nat.pow_add, show 52 + (j + c).toNat = (j + 52 + c).toNat by omega] at this
    exact this
  have u4 : 2 ^ (c + 40) < 2 ^ (j + 52 + c).toNat := Nat.pow_lt_pow_right (by omega) (by omega)
  have hAB : A.natAbs < B.natAbs := by
    have : A.natAbs * 2 ^ q < B.natAbs * 2 ^ q := by omega
    exact Nat.lt_of_mul_lt_mul_right this
  congr 1
  show compareOfLessAndEq B A = _
  unfold compareOfLessAndEq
  cases t
  · have := of_decide_eq_false sg.1
    rw [if_neg (by omega), if_neg (by omega)]; rfl
  · have := of_decide_eq_true sg.1
    rw [if_pos (by omega)]; rfl
theorem FV.c40 : FV 4787326403894837248 17592186044416 := ⟨false, 4503599627370496, -12, rfl, fun h => by omega, fun _ => ⟨by omega, by omega, rfl, rfl, by omega⟩⟩
/-- Made whole, towards nought. -/
theorem FV.trunc {x : Nat} {z : Int} (hx : FV x z) (h0 : 0 ≤ z) (hz : z < 9007199254740992) : FV (double.write ((double.read x).integral .zero)) (16 * (z / 16)) := by
  obtain ⟨s, m, e, r, h1, h2⟩ := hx
  rw [r]
  show FV (double.nearest s (Toward.zero.cut s (m <<< e.toNat) (-e).toNat) 0) _
  have hi := FV.toInt ⟨s, m, e, r, h1, h2⟩ (by omega)
  have key : (Toward.zero.cut s (m <<< e.toNat) (-e).toNat) = (z / 16).toNat := by
    by_cases hz0 : z = 0
    · rw [(h1 hz0).1, hz0, cut_zero', Nat.zero_shiftLeft, Nat.zero_div]; rfl
    · have hd : floatToIntVal .f64 x .i64 = some (z / 16) := by
        rw [hi]
        have : z.tdiv 16 = z / 16 := by rw [Int.tdiv_eq_ediv_of_nonneg h0]
        rw [this]
      unfold floatToIntVal at hd
      rw [show FloatKind.f64.decode x = double.read x from rfl, r] at hd
      have hs : s = false := by rw [(h2 hz0).sg]; exact decide_eq_false (by omega)
      subst hs
      have hv : (Datum.number false m e).toInt .zero = some (signed false (Toward.zero.cut false (m <<< e.toNat) (-e).toNat) 0) := rfl
      rw [hv] at hd
      simp only at hd
      split at hd
      · have e := Option.some.inj hd
        unfold signed at e
        simp only [Bool.false_eq_true, if_false, Nat.shiftLeft_zero] at e
        omega
      · cases hd
  rw [key]
  by_cases hz1 : z / 16 = 0
  · rw [hz1]
    exact fv_zero _ _
  · have hs : s = false := by rw [(h2 (by omega)).sg]; exact decide_eq_false (by omega)
    have := FV.ofInt (n := z / 16) (by omega)
    have e : floatOfInt .f64 (z / 16) = double.nearest s (z / 16).toNat 0 := by
      show double.nearest (decide (z / 16 < 0)) (z / 16).natAbs 0 = _
      rw [hs, decide_eq_false (by omega), show (z / 16).natAbs = (z / 16).toNat by omega]
    rw [← e]
    exact this
end Go.Proofs.Ytgenphpaidanhaa
