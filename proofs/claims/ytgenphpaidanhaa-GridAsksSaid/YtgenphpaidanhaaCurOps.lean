/- What is done to complex numbers whose parts stand for sixteenths: sums, products, comparisons, changed signs; the least and the greatest of two floats. Condition: below 2^53 sixteenths. -/
import Derived.Test.YtgenphpaidanhaaCurPlace
namespace Go.Proofs.Ytgenphpaidanhaa
open Go.RowKit Go.Deep Ieee
attribute [-go_sem] binOp_float_cmp_eql binOp_float_cmp_neq binOp_float_cmp_lss binOp_float_cmp_leq binOp_float_cmp_gtr binOp_float_cmp_geq run_eql_complex run_neq_complex

theorem some_bind {α β : Type} (x : α) (f : α → Option β) : (some x).bind f = f x := rfl
theorem cmul_fv {a b c d : Nat} {x y u v p q r s : Int} (ha : FV a x) (hb : FV b y) (hc : FV c u) (hd : FV d v) (hp : x * u = 16 * p) (hq : y * v = 16 * q) (hr : x * v = 16 * r) (hs : y * u = 16 * s)
    (bp : p.natAbs < 9007199254740992) (bq : q.natAbs < 9007199254740992) (br : r.natAbs < 9007199254740992) (bs : s.natAbs < 9007199254740992) (bm : (p - q).natAbs < 9007199254740992) (bn : (r + s).natAbs < 9007199254740992) :
    ∃ re im, cMulBits a b c d = some (re, im) ∧ FV re (p - q) ∧ FV im (r + s) := by
  obtain ⟨m1, e1, f1⟩ := ha.mul hc hp bp
  obtain ⟨m2, e2, f2⟩ := hb.mul hd hq bq
  obtain ⟨m3, e3, f3⟩ := f1.sub f2 bm
  obtain ⟨m4, e4, f4⟩ := ha.mul hd hr br
  obtain ⟨m5, e5, f5⟩ := hb.mul hc hs bs
  obtain ⟨m6, e6, f6⟩ := f4.add f5 bn
  refine ⟨m3, m6, ?_, f3, f6⟩
  unfold cMulBits
  simp only [e1, e2, e3, e4, e5, e6, some_bind]
theorem cadd_fv {a b c d : Nat} {x y u v : Int} (ha : FV a x) (hb : FV b y) (hc : FV c u) (hd : FV d v) (h1 : (x + u).natAbs < 9007199254740992) (h2 : (y + v).natAbs < 9007199254740992) :
    ∃ re im, cSumBits .add .f64 a b c d = some (re, im) ∧ FV re (x + u) ∧ FV im (y + v) := by
  obtain ⟨m1, e1, f1⟩ := ha.add hc h1
  obtain ⟨m2, e2, f2⟩ := hb.add hd h2
  refine ⟨m1, m2, ?_, f1, f2⟩
  unfold cSumBits
  simp only [e1, e2, some_bind]
theorem csub_fv {a b c d : Nat} {x y u v : Int} (ha : FV a x) (hb : FV b y) (hc : FV c u) (hd : FV d v) (h1 : (x - u).natAbs < 9007199254740992) (h2 : (y - v).natAbs < 9007199254740992) :
    ∃ re im, cSumBits .sub .f64 a b c d = some (re, im) ∧ FV re (x - u) ∧ FV im (y - v) := by
  obtain ⟨m1, e1, f1⟩ := ha.sub hc h1
  obtain ⟨m2, e2, f2⟩ := hb.sub hd h2
  refine ⟨m1, m2, ?_, f1, f2⟩
  unfold cSumBits
  simp only [e1, e2, some_bind]
theorem rMul {a b c d re im : Nat} (h : cMulBits a b c d = some (re, im)) (t : TypeId) (w : World) : (binOp .mul t (.complex .f64 a b) (.complex .f64 c d)).run Try.prog w = .ok (.complex .f64 re im) w := run_complex_mul w t a b c d re im h
theorem rAdd {a b c d re im : Nat} (h : cSumBits .add .f64 a b c d = some (re, im)) (t : TypeId) (w : World) : (binOp .add t (.complex .f64 a b) (.complex .f64 c d)).run Try.prog w = .ok (.complex .f64 re im) w := run_complex_sum w .add (Or.inl rfl) t .f64 a b c d re im h
theorem rSub {a b c d re im : Nat} (h : cSumBits .sub .f64 a b c d = some (re, im)) (t : TypeId) (w : World) : (binOp .sub t (.complex .f64 a b) (.complex .f64 c d)).run Try.prog w = .ok (.complex .f64 re im) w := run_complex_sum w .sub (Or.inr rfl) t .f64 a b c d re im h
theorem cmp_some (x y : Int) : (some (compare x y) == some Ordering.eq) = decide (x = y) := by
  by_cases h : x = y
  · rw [cmp_eq h, decide_eq_true h]; rfl
  · rw [decide_eq_false h]
    rcases Int.lt_or_gt_of_ne h with g | g
    · rw [cmp_lt g]; rfl
    · rw [cmp_gt g]; rfl
theorem ceq_fv {a b c d : Nat} {x y u v : Int} (ha : FV a x) (hb : FV b y) (hc : FV c u) (hd : FV d v) {r : Bool} (hr : decide (x = u ∧ y = v) = r) (t : TypeId) (w : World) : (binOp .eql t (.complex .f64 a b) (.complex .f64 c d)).run Try.prog w = .ok (.bool r) w := by
  rw [run_eql_complex, order_fv ha hc, order_fv hb hd, cmp_some, cmp_some, ← hr, Bool.decide_and]
theorem cne_fv {a b c d : Nat} {x y u v : Int} (ha : FV a x) (hb : FV b y) (hc : FV c u) (hd : FV d v) {r : Bool} (hr : decide (¬ (x = u ∧ y = v)) = r) (t : TypeId) (w : World) : (binOp .neq t (.complex .f64 a b) (.complex .f64 c d)).run Try.prog w = .ok (.bool r) w := by
  rw [run_neq_complex, order_fv ha hc, order_fv hb hd, cmp_some, cmp_some, ← hr, ← Bool.decide_and]
  congr 2
  by_cases h : x = u ∧ y = v
  · rw [decide_eq_true h, decide_eq_false (fun g => g h)]; rfl
  · rw [decide_eq_false h, decide_eq_true h]; rfl
theorem fne_fv {a b : Nat} {x y : Int} (ha : FV a x) (hb : FV b y) {r : Bool} (hr : decide (x ≠ y) = r) (t : TypeId) (w : World) : (binOp .neq t (.float .f64 a) (.float .f64 b)).run Try.prog w = .ok (.bool r) w := by
  rw [binOp_float_cmp_neq, order_fv ha hb, ← hr]
  show Result.ok (Value.bool (!(some (compare x y) == some Ordering.eq))) w = _
  rw [cmp_some]
  congr 2
  by_cases h : x = y
  · rw [decide_eq_true h, decide_eq_false (fun g => g h)]; rfl
  · rw [decide_eq_false h, decide_eq_true h]; rfl
theorem read_flip (b : Nat) : double.read (b ^^^ 9223372036854775808) = (double.read b).opposite := by
  have h1 : (b ^^^ 9223372036854775808) % 9223372036854775808 = b % 9223372036854775808 := by
    have := Nat.xor_mod_two_pow (a := b) (b := 2 ^ 63) (n := 63)
    rw [Nat.mod_self, Nat.xor_zero] at this
    exact this
  have h2 : ((b ^^^ 9223372036854775808) / 9223372036854775808 % 2 == 1) = !(b / 9223372036854775808 % 2 == 1) := by
    have e : (b ^^^ 2 ^ 63) / 2 ^ 63 % 2 = (b / 2 ^ 63 % 2) ^^^ 1 := by
      rw [← Nat.shiftRight_eq_div_pow, Nat.shiftRight_xor_distrib, Nat.shiftRight_eq_div_pow, Nat.shiftRight_eq_div_pow, Nat.div_self (two_pos 63)]
      exact Nat.xor_mod_two_pow (n := 1)
    have e' : (b ^^^ 9223372036854775808) / 9223372036854775808 % 2 = (b / 9223372036854775808 % 2) ^^^ 1 := e
    rw [e']
    rcases Nat.mod_two_eq_zero_or_one (b / 9223372036854775808) with g | g
    · rw [g]; rfl
    · rw [g]; rfl
  unfold Format.read
  simp only [dbl_sign, dbl_binade, dbl_inf, dbl_least, h1, h2]
  by_cases c1 : b % 9223372036854775808 < 4503599627370496
  · simp [c1, Datum.opposite]
  · by_cases c2 : b % 9223372036854775808 < 9218868437227405312
    · simp [c1, c2, Datum.opposite]
    · by_cases c3 : b % 9223372036854775808 = 9218868437227405312
      · simp [c3, Datum.opposite]
      · simp [c1, c2, c3, Datum.opposite]
theorem FV.neg {b : Nat} {z : Int} (h : FV b z) : FV (Op.negFloat .f64 b) (-z) := by
  obtain ⟨s, m, e, r, h0, h1⟩ := h
  refine ⟨!s, m, e, ?_, fun g => h0 (by omega), fun g => ?_⟩
  · show double.read (b ^^^ 9223372036854775808) = _
    rw [read_flip, r]; rfl
  · obtain ⟨g1, g2, g3, g4, g5⟩ := h1 (by omega)
    refine ⟨g1, g2, by rw [Int.natAbs_neg]; exact g3, ?_, g5⟩
    rw [g4]
    by_cases hb : z < 0
    · rw [decide_eq_true hb, decide_eq_false (by omega)]; rfl
    · rw [decide_eq_false hb, decide_eq_true (by omega)]; rfl
theorem rNeg (b : Nat) (w : World) : (Op.unary .neg (.float .f64 b)).run Try.prog w = .ok (.float .f64 (Op.negFloat .f64 b)) w := rfl
theorem fmin_fv {a b : Nat} {x y : Int} (ha : FV a x) (hb : FV b y) : ∃ r, (∀ (ts : Array TypeId) (t : TypeId) (w : World), (Builtin.min_ ts t #[.float .f64 a, .float .f64 b]).run Try.prog w = .ok (.float .f64 r) w) ∧ FV r (min x y) := by
  have ho := order_fv ha hb
  rcases Int.lt_trichotomy x y with h | h | h
  · rw [cmp_lt h] at ho
    exact ⟨a, fun ts t w => by simp [Builtin.min_, Builtin.min2, ho], by rw [show min x y = x by omega]; exact ha⟩
  · rw [cmp_eq h] at ho
    cases hn : (FloatKind.f64.decode a).neg
    · exact ⟨b, fun ts t w => by simp [Builtin.min_, Builtin.min2, ho, hn], by rw [show min x y = y by omega]; exact hb⟩
    · exact ⟨a, fun ts t w => by simp [Builtin.min_, Builtin.min2, ho, hn], by rw [show min x y = x by omega]; exact ha⟩
  · rw [cmp_gt h] at ho
    exact ⟨b, fun ts t w => by simp [Builtin.min_, Builtin.min2, ho], by rw [show min x y = y by omega]; exact hb⟩
theorem fmax_fv {a b : Nat} {x y : Int} (ha : FV a x) (hb : FV b y) : ∃ r, (∀ (ts : Array TypeId) (t : TypeId) (w : World), (Builtin.max_ ts t #[.float .f64 a, .float .f64 b]).run Try.prog w = .ok (.float .f64 r) w) ∧ FV r (max x y) := by
  have ho := order_fv ha hb
  rcases Int.lt_trichotomy x y with h | h | h
  · rw [cmp_lt h] at ho
    exact ⟨b, fun ts t w => by simp [Builtin.max_, Builtin.max2, ho], by rw [show max x y = y by omega]; exact hb⟩
  · rw [cmp_eq h] at ho
    cases hn : (FloatKind.f64.decode a).neg
    · exact ⟨a, fun ts t w => by simp [Builtin.max_, Builtin.max2, ho, hn], by rw [show max x y = x by omega]; exact ha⟩
    · exact ⟨b, fun ts t w => by simp [Builtin.max_, Builtin.max2, ho, hn], by rw [show max x y = y by omega]; exact hb⟩
  · rw [cmp_gt h] at ho
    exact ⟨a, fun ts t w => by simp [Builtin.max_, Builtin.max2, ho], by rw [show max x y = x by omega]; exact ha⟩
/-- A number of sixteenths that is whole, as a whole number. -/
theorem rToInt {b : Nat} {n : Int} (h : FV b (16 * n)) (hn : n.natAbs < 562949953421312) (w : World) : (convert 39 3 (.float .f64 b)).run Try.prog w = .ok (.int .i64 n) w := by
  have h1 := h.toInt (by omega)
  rw [show (16 * n).tdiv 16 = n by rw [Int.mul_tdiv_cancel_left _ (by omega)]] at h1
  exact run_convert_float_int w 39 3 .f64 .i64 b n (by rw [Try.underlying39]; rfl) Try.underlying3 h1
end Go.Proofs.Ytgenphpaidanhaa
