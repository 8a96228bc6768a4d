/- Floats that stand for whole numbers, halves, quarters, sixteenths: what is added, taken away, multiplied, halved, compared and turned into whole numbers is exact. Condition: below 2^53 sixteenths. -/
import Derived.Laws.ComplexArith
namespace Go.Proofs.Ytgenphpaidanhaa
open Ieee

theorem dbl_binade : double.binade = 4503599627370496 := rfl
theorem dbl_inf : double.infRung = 9218868437227405312 := rfl
theorem dbl_sign : double.signWeight = 9223372036854775808 := rfl
theorem dbl_least : double.leastPlace = -1074 := rfl
theorem dbl_frac : double.fractionBits = 52 := rfl
theorem read_zero (s : Bool) : double.read (double.word s 0) = .number s 0 (-1074) := by cases s <;> rfl
theorem read_word {s : Bool} {K : Nat} {last : Int} (h1 : 4503599627370496 ≤ K) (h2 : K < 9007199254740992) (h3 : -1074 ≤ last) (h4 : last ≤ 60) :
    double.read (double.word s ((last + 1074).toNat * 4503599627370496 + K)) = .number s K last := by
  obtain ⟨a, ha⟩ : ∃ a, (last + 1074).toNat = a := ⟨_, rfl⟩
  have ha2 : a ≤ 1134 := by omega
  have hl : last = (a : Int) - 1074 := by omega
  rw [ha]
  have hw : (double.word s (a * 4503599627370496 + K)) % 9223372036854775808 = a * 4503599627370496 + K := by
    unfold Format.word
    rw [dbl_sign]
    cases s
    · simp only [Bool.false_eq_true, if_false]; omega
    · simp only [if_true]; omega
  have hs : ((double.word s (a * 4503599627370496 + K)) / 9223372036854775808 % 2 == 1) = s := by
    unfold Format.word
    rw [dbl_sign]
    cases s
    · simp only [Bool.false_eq_true, if_false, beq_eq_false_iff_ne]; omega
    · simp only [if_true, beq_iff_eq]; omega
  unfold Format.read
  simp only [dbl_sign, dbl_binade, dbl_inf, dbl_least, hw, hs]
  rw [if_neg (by omega), if_pos (by omega)]
  congr 1
  · omega
  · omega

theorem two_pos (n : Nat) : 0 < 2 ^ n := Nat.pow_pos (by omega)
/-- A number that the format has is written as it is. -/
theorem nearest_spec (s : Bool) {m z c : Nat} {e : Int} (hz : 0 < z) (hz2 : z < 9007199254740992) (hc : 60 ≤ c) (he : -(c : Int) ≤ e) (h : m * 2 ^ (e + c).toNat = z * 2 ^ (c - 4)) :
    ∃ (K : Nat) (last : Int), double.nearest s m e = double.word s ((last + 1074).toNat * 4503599627370496 + K) ∧ 4503599627370496 ≤ K ∧ K < 9007199254740992 ∧ -60 ≤ last ∧ last ≤ 60 ∧ K * 2 ^ (last + 60).toNat = z * 2 ^ 56 := by
  have hm : m ≠ 0 := fun h0 => by
    rw [h0, Nat.zero_mul] at h
    have := Nat.mul_pos hz (two_pos (c - 4))
    omega
  obtain ⟨L, hL⟩ : ∃ L, m.log2 = L := ⟨_, rfl⟩
  obtain ⟨Z, hZ⟩ : ∃ Z, z.log2 = Z := ⟨_, rfl⟩
  have l1 : 2 ^ L ≤ m := hL ▸ Nat.log2_self_le hm
  have l2 : m < 2 ^ (L + 1) := hL ▸ Nat.lt_log2_self
  have z1 : 2 ^ Z ≤ z := hZ ▸ Nat.log2_self_le (by omega)
  have z2 : z < 2 ^ (Z + 1) := hZ ▸ Nat.lt_log2_self
  have hZ52 : Z ≤ 52 := by
    rcases Nat.lt_or_ge 52 Z with hh | hh
    · have := Nat.pow_le_pow_right (n := 2) (by omega) hh
      have e53 : 2 ^ (52 + 1) = 9007199254740992 := rfl
      have : 2 ^ (52 + 1) ≤ 2 ^ Z := Nat.pow_le_pow_right (by omega) hh
      omega
    · exact hh
  obtain ⟨k, hk⟩ : ∃ k, (e + c).toNat = k := ⟨_, rfl⟩
  rw [hk] at h
  have hLZ : L + k = Z + (c - 4) := by
    have a1 : 2 ^ (L + k) ≤ m * 2 ^ k := by rw [Nat.pow_add]; exact Nat.mul_le_mul_right _ l1
    have a2 : m * 2 ^ k < 2 ^ (L + 1 + k) := by rw [Nat.pow_add]; exact Nat.mul_lt_mul_of_pos_right l2 (two_pos k)
    have b1 : 2 ^ (Z + (c - 4)) ≤ z * 2 ^ (c - 4) := by rw [Nat.pow_add]; exact Nat.mul_le_mul_right _ z1
    have b2 : z * 2 ^ (c - 4) < 2 ^ (Z + 1 + (c - 4)) := by rw [Nat.pow_add]; exact Nat.mul_lt_mul_of_pos_right z2 (two_pos _)
    rw [h] at a1 a2
    have c1 := (Nat.pow_lt_pow_iff_right (a := 2) (by omega)).1 (Nat.lt_of_le_of_lt a1 b2)
    have c2 := (Nat.pow_lt_pow_iff_right (a := 2) (by omega)).1 (Nat.lt_of_le_of_lt b1 a2)
    omega
  have hlast : max (e + (L : Int) - 52) (-1074) = (Z : Int) - 56 := by omega
  have k1 : 4503599627370496 ≤ z * 2 ^ (52 - Z) := by
    have := Nat.mul_le_mul_right (2 ^ (52 - Z)) z1
    rw [← Nat.pow_add, show Z + (52 - Z) = 52 by omega] at this
    exact this
  have k2 : z * 2 ^ (52 - Z) < 9007199254740992 := by
    have := Nat.mul_lt_mul_of_pos_right z2 (two_pos (52 - Z))
    rw [← Nat.pow_add, show Z + 1 + (52 - Z) = 53 by omega] at this
    exact this
  have hcut : Toward.even.cut s (m <<< (e - ((Z : Int) - 56)).toNat) (((Z : Int) - 56) - e).toNat = z * 2 ^ (52 - Z) := by
    rcases Int.le_total ((Z : Int) - 56) e with hle | hle
    · have d0 : (((Z : Int) - 56) - e).toNat = 0 := by omega
      obtain ⟨u, hu⟩ : ∃ u, (e - ((Z : Int) - 56)).toNat = u := ⟨_, rfl⟩
      rw [d0, hu]
      have e1 : m <<< u = z * 2 ^ (52 - Z) := by
        rw [Nat.shiftLeft_eq]
        apply Nat.eq_of_mul_eq_mul_right (two_pos (Z + c - 56))
        rw [Nat.mul_assoc, ← Nat.pow_add, Nat.mul_assoc, ← Nat.pow_add, show u + (Z + c - 56) = k by omega, show 52 - Z + (Z + c - 56) = c - 4 by omega, h]
      rw [e1]
      unfold Toward.cut
      simp [Nat.mod_one]
    · obtain ⟨d, hd⟩ : ∃ d, (((Z : Int) - 56) - e).toNat = d := ⟨_, rfl⟩
      have u0 : (e - ((Z : Int) - 56)).toNat = 0 := by omega
      rw [hd, u0, Nat.shiftLeft_zero]
      have e1 : m = z * 2 ^ (52 - Z) * 2 ^ d := by
        apply Nat.eq_of_mul_eq_mul_right (two_pos k)
        rw [h, Nat.mul_assoc, Nat.mul_assoc, ← Nat.pow_add, ← Nat.pow_add, show 52 - Z + (d + k) = c - 4 by omega]
      unfold Toward.cut
      rw [hL, Nat.min_eq_left (by omega : d ≤ L + 2), Nat.one_shiftLeft]
      have q1 : m / 2 ^ d = z * 2 ^ (52 - Z) := by rw [e1, Nat.mul_div_cancel _ (two_pos d)]
      have q2 : m % 2 ^ d = 0 := by rw [e1, Nat.mul_mod_left]
      simp only [q1, q2]
      have hp := two_pos d
      have : (2 ^ d == 0) = false := beq_eq_false_iff_ne.2 (by omega)
      simp [this]
  refine ⟨z * 2 ^ (52 - Z), (Z : Int) - 56, ?_, k1, k2, by omega, by omega, ?_⟩
  · unfold Format.nearest
    rw [if_neg hm, dbl_least, dbl_frac, hL]
    show double.word s (min ((max (e + (L : Int) - 52) (-1074) - (-1074)).toNat * double.binade + Toward.even.cut s (m <<< (e - max (e + (L : Int) - 52) (-1074)).toNat) (max (e + (L : Int) - 52) (-1074) - e).toNat) double.infRung) = _
    rw [hlast, hcut, dbl_binade, dbl_inf, show ((Z : Int) - 56 - -1074) = (Z : Int) - 56 + 1074 by omega, Nat.min_eq_left (by omega)]
  · rw [Nat.mul_assoc, ← Nat.pow_add, show 52 - Z + ((Z : Int) - 56 + 60).toNat = 56 by omega]

/-- A number that is not nought. -/
structure FNum (s : Bool) (m : Nat) (e z : Int) : Prop where
  lo : -60 ≤ e
  hi : e ≤ 60
  val : m * 2 ^ (e + 60).toNat = z.natAbs * 2 ^ 56
  sg : s = decide (z < 0)
  top : m < 9007199254740992
/-- The float with bits b stands for z sixteenths. -/
def FV (b : Nat) (z : Int) : Prop := ∃ s m e, double.read b = .number s m e ∧ (z = 0 → m = 0 ∧ -1074 ≤ e ∧ e ≤ 60) ∧ (z ≠ 0 → FNum s m e z)
theorem fv_zero (s : Bool) (e : Int) : FV (double.nearest s 0 e) 0 := by
  have : double.nearest s 0 e = double.word s 0 := by unfold Format.nearest; rw [if_pos rfl]
  rw [this]
  exact ⟨s, 0, -1074, read_zero s, fun _ => ⟨rfl, by omega, by omega⟩, fun h => absurd rfl h⟩
theorem fv_nearest {z : Int} {s : Bool} {m c : Nat} {e : Int} (hz : z ≠ 0) (hz2 : z.natAbs < 9007199254740992) (hs : s = decide (z < 0)) (hc : 60 ≤ c) (he : -(c : Int) ≤ e) (h : m * 2 ^ (e + c).toNat = z.natAbs * 2 ^ (c - 4)) :
    FV (double.nearest s m e) z := by
  obtain ⟨K, last, h1, h2, h3, h4, h5, h6⟩ := nearest_spec s (by omega) hz2 hc he h
  rw [h1]
  exact ⟨s, K, last, read_word h2 h3 (by omega) h5, fun h => absurd h hz, fun _ => ⟨h4, h5, h6, hs, h3⟩⟩
/-- What a number is in finer units. -/
theorem signed_val {s : Bool} {m : Nat} {e : Int} {z : Int} (c : Nat) (hc : 1200 ≤ c) (h0 : z = 0 → m = 0 ∧ -1074 ≤ e ∧ e ≤ 60) (h1 : z ≠ 0 → FNum s m e z) {base : Int} (hb : base ≤ e) (hb2 : -1074 ≤ base) :
    signed s m (e - base).toNat * ((2 ^ (base + c).toNat : Nat) : Int) = z * ((2 ^ (c - 4) : Nat) : Int) := by
  by_cases hz : z = 0
  · rw [(h0 hz).1, hz]
    unfold signed
    cases s <;> simp
  · obtain ⟨e1, e2, e3, e4, _⟩ := h1 hz
    have hn : m * 2 ^ (e - base).toNat * 2 ^ (base + c).toNat = z.natAbs * 2 ^ (c - 4) := by
      rw [Nat.mul_assoc, ← Nat.pow_add, show (e - base).toNat + (base + c).toNat = (e + 60).toNat + (c - 60) by omega, Nat.pow_add, ← Nat.mul_assoc, e3, Nat.mul_assoc, ← Nat.pow_add, show 56 + (c - 60) = c - 4 by omega]
    have hn' := congrArg (fun n : Nat => (n : Int)) hn
    simp only [Int.natCast_mul] at hn'
    unfold signed
    rw [Nat.shiftLeft_eq, Int.natCast_mul]
    by_cases hneg : z < 0
    · rw [e4, decide_eq_true hneg]
      simp only [if_true]
      rw [Int.neg_mul, hn', show (z.natAbs : Int) = -z by omega, Int.neg_mul, Int.neg_neg]
    · rw [e4, decide_eq_false hneg]
      simp only [Bool.false_eq_true, if_false]
      rw [hn', show (z.natAbs : Int) = z by omega]
theorem mul_pos_sign {a b z u : Int} (hb : 0 < b) (hu : 0 < u) (h : a * b = z * u) : (a = 0 ↔ z = 0) ∧ (a < 0 ↔ z < 0) := by
  constructor
  · constructor
    · intro h0
      rw [h0, Int.zero_mul] at h
      rcases Int.mul_eq_zero.1 h.symm with h | h <;> omega
    · intro h0
      rw [h0, Int.zero_mul] at h
      rcases Int.mul_eq_zero.1 h with h | h <;> omega
  · constructor
    · intro h0
      have : a * b < 0 := Int.mul_neg_of_neg_of_pos h0 hb
      rw [h] at this
      rcases Int.lt_or_le z 0 with hz | hz
      · exact hz
      · have := Int.mul_nonneg hz (Int.le_of_lt hu); omega
    · intro h0
      have : z * u < 0 := Int.mul_neg_of_neg_of_pos h0 hu
      rw [← h] at this
      rcases Int.lt_or_le a 0 with ha | ha
      · exact ha
      · have := Int.mul_nonneg ha (Int.le_of_lt hb); omega
theorem e_low {m : Nat} {e z : Int} {s : Bool} (h0 : z = 0 → m = 0 ∧ -1074 ≤ e ∧ e ≤ 60) (h1 : z ≠ 0 → FNum s m e z) : -1074 ≤ e ∧ e ≤ 60 := by
  by_cases hz : z = 0
  · exact (h0 hz).2
  · have := (h1 hz).lo; have := (h1 hz).hi; omega
/-- A sum of two numbers, written. -/
theorem sum_fv {s t : Bool} {m n : Nat} {i j a b : Int} (ha0 : a = 0 → m = 0 ∧ -1074 ≤ i ∧ i ≤ 60) (ha1 : a ≠ 0 → FNum s m i a)
    (hb0 : b = 0 → n = 0 ∧ -1074 ≤ j ∧ j ≤ 60) (hb1 : b ≠ 0 → FNum t n j b) (hab : (a + b).natAbs < 9007199254740992) :
    ∃ d, (Datum.number s m i).sum (.number t n j) = some d ∧ FV (double.write d) (a + b) := by
  have hi := e_low ha0 ha1
  have hj := e_low hb0 hb1
  refine ⟨_, rfl, ?_⟩
  obtain ⟨base, hbs⟩ : ∃ base, min i j = base := ⟨_, rfl⟩
  simp only [Format.write, hbs]
  obtain ⟨c, hc⟩ : ∃ c : Nat, c = 1200 := ⟨_, rfl⟩
  have v1 := signed_val c (by omega) ha0 ha1 (base := base) (by omega) (by omega)
  have v2 := signed_val c (by omega) hb0 hb1 (base := base) (by omega) (by omega)
  obtain ⟨T, hT⟩ : ∃ T, signed s m (i - base).toNat + signed t n (j - base).toNat = T := ⟨_, rfl⟩
  rw [hT]
  have v3 : T * ((2 ^ (base + c).toNat : Nat) : Int) = (a + b) * ((2 ^ (c - 4) : Nat) : Int) := by rw [← hT, Int.add_mul, v1, v2, Int.add_mul]
  have p1 : (0 : Int) < ((2 ^ (base + c).toNat : Nat) : Int) := by have := two_pos (base + c).toNat; omega
  have p2 : (0 : Int) < ((2 ^ (c - 4) : Nat) : Int) := by have := two_pos (c - 4); omega
  obtain ⟨s1, s2⟩ := mul_pos_sign p1 p2 v3
  by_cases hz : a + b = 0
  · rw [hz, s1.2 hz]
    exact fv_zero _ _
  · have hT0 : T ≠ 0 := fun e => hz (s1.1 e)
    rw [if_neg hT0]
    refine fv_nearest hz hab ?_ (c := c) (by omega) (by omega) ?_
    · by_cases h : T < 0
      · rw [decide_eq_true h, decide_eq_true (s2.1 h)]
      · rw [decide_eq_false h, decide_eq_false (fun g => h (s2.2 g))]
    · have := congrArg Int.natAbs v3
      rw [Int.natAbs_mul, Int.natAbs_mul, Int.natAbs_natCast, Int.natAbs_natCast] at this
      exact this
theorem FV.add {x y : Nat} {a b : Int} (hx : FV x a) (hy : FV y b) (hab : (a + b).natAbs < 9007199254740992) : ∃ r, floatBits .add .f64 x y = some r ∧ FV r (a + b) := by
  obtain ⟨s, m, i, r1, ha0, ha1⟩ := hx
  obtain ⟨t, n, j, r2, hb0, hb1⟩ := hy
  obtain ⟨d, h1, h2⟩ := sum_fv ha0 ha1 hb0 hb1 hab
  refine ⟨double.write d, ?_, h2⟩
  show ((double.read x).sum (double.read y)).map double.write = _
  rw [r1, r2, h1]
  rfl
theorem FV.sub {x y : Nat} {a b : Int} (hx : FV x a) (hy : FV y b) (hab : (a - b).natAbs < 9007199254740992) : ∃ r, floatBits .sub .f64 x y = some r ∧ FV r (a - b) := by
  obtain ⟨s, m, i, r1, ha0, ha1⟩ := hx
  obtain ⟨t, n, j, r2, hb0, hb1⟩ := hy
  obtain ⟨d, h1, h2⟩ := sum_fv (b := -b) (t := !t) ha0 ha1 (fun h => hb0 (by omega)) (fun h => by
    obtain ⟨g1, g2, g3, g4, g5⟩ := hb1 (by omega)
    refine ⟨g1, g2, by rw [Int.natAbs_neg]; exact g3, ?_, g5⟩
    rw [g4]
    by_cases hb : b < 0
    · rw [decide_eq_true hb, decide_eq_false (by omega)]; rfl
    · rw [decide_eq_false hb, decide_eq_true (by omega)]; rfl) (by rwa [← Int.sub_eq_add_neg])
  refine ⟨double.write d, ?_, by rw [Int.sub_eq_add_neg]; exact h2⟩
  show ((double.read x).sum (double.read y).opposite).map double.write = _
  rw [r1, r2]
  show ((Datum.number s m i).sum (.number (!t) n j)).map double.write = _
  rw [h1]
  rfl
/-- A product of two numbers; of a and b sixteenths the product is p sixteenths. -/
theorem FV.mul {x y : Nat} {a b p : Int} (hx : FV x a) (hy : FV y b) (hp : a * b = 16 * p) (hab : p.natAbs < 9007199254740992) : ∃ r, floatBits .mul .f64 x y = some r ∧ FV r p := by
  obtain ⟨s, m, i, r1, ha0, ha1⟩ := hx
  obtain ⟨t, n, j, r2, hb0, hb1⟩ := hy
  refine ⟨double.nearest (s ^^ t) (m * n) (i + j), ?_, ?_⟩
  · show ((double.read x).product (double.read y)).map double.write = _
    rw [r1, r2]
    rfl
  · by_cases hz : p = 0
    · have hmn : m * n = 0 := by
        rw [hz, Int.mul_zero] at hp
        rcases Int.mul_eq_zero.1 hp with h | h
        · rw [(ha0 h).1, Nat.zero_mul]
        · rw [(hb0 h).1, Nat.mul_zero]
      rw [hmn, hz]
      exact fv_zero _ _
    · have ha : a ≠ 0 := fun h => hz (by rw [h, Int.zero_mul] at hp; omega)
      have hb : b ≠ 0 := fun h => hz (by rw [h, Int.mul_zero] at hp; omega)
      obtain ⟨g1, g2, g3, g4, _⟩ := ha1 ha
      obtain ⟨k1, k2, k3, k4, _⟩ := hb1 hb
      refine fv_nearest (c := 120) hz hab ?_ (by omega) (by omega) ?_
      · rw [g4, k4]
        rcases Int.lt_or_gt_of_ne ha with h | h <;> rcases Int.lt_or_gt_of_ne hb with g | g
        · have := Int.mul_pos_of_neg_of_neg h g
          rw [decide_eq_true h, decide_eq_true g, decide_eq_false (by omega)]; rfl
        · have := Int.mul_neg_of_neg_of_pos h g
          rw [decide_eq_true h, decide_eq_false (by omega), decide_eq_true (by omega)]; rfl
        · have := Int.mul_neg_of_pos_of_neg h g
          rw [decide_eq_false (by omega), decide_eq_true g, decide_eq_true (by omega)]; rfl
        · have := Int.mul_pos h g
          rw [decide_eq_false (by omega), decide_eq_false (by omega), decide_eq_false (by omega)]; rfl
      · have e1 : (i + j + ((120 : Nat) : Int)).toNat = (i + 60).toNat + (j + 60).toNat := by omega
        rw [e1, Nat.pow_add, Nat.mul_mul_mul_comm, g3, k3, Nat.mul_mul_mul_comm, ← Int.natAbs_mul, hp, Int.natAbs_mul, show (16 : Int).natAbs = 16 from rfl, Nat.mul_comm 16, Nat.mul_assoc]
theorem FV.order {x y : Nat} {a b : Int} (hx : FV x a) (hy : FV y b) : double.order x y = some (compare a b) := by
  obtain ⟨s, m, i, r1, ha0, ha1⟩ := hx
  obtain ⟨t, n, j, r2, hb0, hb1⟩ := hy
  have hi := e_low ha0 ha1
  have hj := e_low hb0 hb1
  show (double.read x).order (double.read y) = _
  rw [r1, r2]
  obtain ⟨base, hbs⟩ : ∃ base, min i j = base := ⟨_, rfl⟩
  show some (compare (signed s m (i - min i j).toNat) (signed t n (j - min i j).toNat)) = _
  rw [hbs]
  obtain ⟨c, hc⟩ : ∃ c : Nat, c = 1200 := ⟨_, rfl⟩
  have v1 := signed_val c (by omega) ha0 ha1 (base := base) (by omega) (by omega)
  have v2 := signed_val c (by omega) hb0 hb1 (base := base) (by omega) (by omega)
  generalize signed s m (i - base).toNat = A at v1 ⊢
  generalize signed t n (j - base).toNat = B at v2 ⊢
  have p1 : (0 : Int) < ((2 ^ (base + c).toNat : Nat) : Int) := by have := two_pos (base + c).toNat; omega
  have p2 : (0 : Int) < ((2 ^ (c - 4) : Nat) : Int) := by have := two_pos (c - 4); omega
  have v3 : (A - B) * ((2 ^ (base + c).toNat : Nat) : Int) = (a - b) * ((2 ^ (c - 4) : Nat) : Int) := by rw [Int.sub_mul, v1, v2, Int.sub_mul]
  obtain ⟨s1, s2⟩ := mul_pos_sign p1 p2 v3
  congr 1
  show compareOfLessAndEq A B = compareOfLessAndEq a b
  unfold compareOfLessAndEq
  by_cases h : a < b
  · rw [if_pos h, if_pos (by have := s2.2 (by omega); omega)]
  · rw [if_neg h, if_neg (by intro g; have := s2.1 (by omega); omega)]
    by_cases e : a = b
    · rw [if_pos e, if_pos (by have := s1.2 (by omega); omega)]
    · rw [if_neg e, if_neg (by intro g; have := s1.1 (by omega); omega)]
end Go.Proofs.Ytgenphpaidanhaa
