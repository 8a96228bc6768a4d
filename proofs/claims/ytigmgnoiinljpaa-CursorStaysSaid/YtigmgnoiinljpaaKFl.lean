/- Floats far from nought: what whole numbers beyond 2^48 are rounded to stays far from nought, with its sign, through a product by one, a sum with a place, and a comparison with one. No condition beyond those that each lemma states. (Merged of 3 texts.) -/
import Derived.Laws.ComplexArith
/- Floats that stand for whole numbers, halves, quarters, sixteenths: what is added, taken away, multiplied, halved, compared and turned into whole numbers is exact. Condition: below 2^53 sixteenths. -/
namespace Go.Proofs.Ytigmgnoiinljpaa
open Ieee

theorem dbl_binade : double.binade = 4503599627370496 := rfl
theorem dbl_inf : double.infRung = 9218868437227405312 := rfl
theorem dbl_sign : double.signWeight = 9223372036854775808 := rfl
theorem dbl_least : double.leastPlace = -1074 := rfl
theorem dbl_frac : double.fractionBits = 52 := rfl
theorem read_zero (s : Bool) : double.read (double.word s 0) = .number s 0 (-1074) := by cases s <;> rfl
theorem read_word {s : Bool} {K : Nat} {last : Int} (h1 : 4503599627370496 ≤ K) (h2 : K < 9007199254740992) (h3 : -1074 ≤ last) (h4 : last ≤ 60) :
    double.read (double.word s ((last + 1074).toNat * 4503599627370496 + K)) = .number s K last := by
  obtain ⟨a, ha⟩ : ∃ a, (last + 1074).toNat = a := ⟨_, rfl⟩
  have ha2 : a ≤ 1134 := by omega
  have hl : last = (a : Int) - 1074 := by omega
  rw [ha]
  have hw : (double.word s (a * 4503599627370496 + K)) % 9223372036854775808 = a * 4503599627370496 + K := by
    unfold Format.word
    rw [dbl_sign]
    cases s
    · simp only [Bool.false_eq_true, if_false]; omega
    · simp only [if_true]; omega
  have hs : ((double.word s (a * 4503599627370496 + K)) / 9223372036854775808 % 2 == 1) = s := by
    unfold Format.word
    rw [dbl_sign]
    cases s
    · simp only [Bool.false_eq_true, if_false, beq_eq_false_iff_ne]; omega
    · simp only [if_true, beq_iff_eq]; omega
  unfold Format.read
  simp only [dbl_sign, dbl_binade, dbl_inf, dbl_least, hw, hs]
  rw [if_neg (by omega), if_pos (by omega)]
  congr 1
  · omega
  · omega

theorem two_pos (n : Nat) : 0 < 2 ^ n := Nat.pow_pos (by omega)
/-- A number that the format has is written as it is. -/
theorem nearest_spec (s : Bool) {m z c : Nat} {e : Int} (hz : 0 < z) (hz2 : z < 9007199254740992) (hc : 60 ≤ c) (he : -(c : Int) ≤ e) (h : m * 2 ^ (e + c).toNat = z * 2 ^ (c - 4)) :
    ∃ (K : Nat) (last : Int), double.nearest s m e = double.word s ((last + 1074).toNat * 4503599627370496 + K) ∧ 4503599627370496 ≤ K ∧ K < 9007199254740992 ∧ -60 ≤ last ∧ last ≤ 60 ∧ K * 2 ^ (last + 60).toNat = z * 2 ^ 56 := by
  have hm : m ≠ 0 := fun h0 => by
    rw [h0, Nat.zero_mul] at h
    have := Nat.mul_pos hz (two_pos (c - 4))
    omega
  obtain ⟨L, hL⟩ : ∃ L, m.log2 = L := ⟨_, rfl⟩
  obtain ⟨Z, hZ⟩ : ∃ Z, z.log2 = Z := ⟨_, rfl⟩
  have l1 : 2 ^ L ≤ m := hL ▸ Nat.log2_self_le hm
  have l2 : m < 2 ^ (L + 1) := hL ▸ Nat.lt_log2_self
  have z1 : 2 ^ Z ≤ z := hZ ▸ Nat.log2_self_le (by omega)
  have z2 : z < 2 ^ (Z + 1) := hZ ▸ Nat.lt_log2_self
  have hZ52 : Z ≤ 52 := by
    rcases Nat.lt_or_ge 52 Z with hh | hh
    · have := Nat.pow_le_pow_right (n := 2) (by omega) hh
      have e53 : 2 ^ (52 + 1) = 9007199254740992 := rfl
      have : 2 ^ (52 + 1) ≤ 2 ^ Z := Nat.pow_le_pow_right (by omega) hh
      omega
    · exact hh
  obtain ⟨k, hk⟩ : ∃ k, (e + c).toNat = k := ⟨_, rfl⟩
  rw [hk] at h
  have hLZ : L + k = Z + (c - 4) := by
    have a1 : 2 ^ (L + k) ≤ m * 2 ^ k := by rw [Nat.pow_add]; exact Nat.mul_le_mul_right _ l1
    have a2 : m * 2 ^ k < 2 ^ (L + 1 + k) := by rw [Nat.pow_add]; exact Nat.mul_lt_mul_of_pos_right l2 (two_pos k)
    have b1 : 2 ^ (Z + (c - 4)) ≤ z * 2 ^ (c - 4) := by rw [Nat.pow_add]; exact Nat.mul_le_mul_right _ z1
    have b2 : z * 2 ^ (c - 4) < 2 ^ (Z + 1 + (c - 4)) := by rw [Nat.pow_add]; exact Nat.mul_lt_mul_of_pos_right z2 (two_pos _)
    rw [h] at a1 a2
    have c1 := (Nat.pow_lt_pow_iff_right (a := 2) (by omega)).1 (Nat.lt_of_le_of_lt a1 b2)
    have c2 := (Nat.pow_lt_pow_iff_right (a := 2) (by omega)).1 (Nat.lt_of_le_of_lt b1 a2)
    omega
  have hlast : max (e + (L : Int) - 52) (-1074) = (Z : Int) - 56 := by omega
  have k1 : 4503599627370496 ≤ z * 2 ^ (52 - Z) := by
    have := Nat.mul_le_mul_right (2 ^ (52 - Z)) z1
    rw [← Nat.pow_add, show Z + (52 - Z) = 52 by omega] at this
    exact this
  have k2 : z * 2 ^ (52 - Z) < 9007199254740992 := by
    have := Nat.mul_lt_mul_of_pos_right z2 (two_pos (52 - Z))
    rw [← Nat.pow_add, show Z + 1 + (52 - Z) = 53 by omega] at this
    exact this
  have hcut : Toward.even.cut s (m <<< (e - ((Z : Int) - 56)).toNat) (((Z : Int) - 56) - e).toNat = z * 2 ^ (52 - Z) := by
    rcases Int.le_total ((Z : Int) - 56) e with hle | hle
    · have d0 : (((Z : Int) - 56) - e).toNat = 0 := by omega
      obtain ⟨u, hu⟩ : ∃ u, (e - ((Z : Int) - 56)).toNat = u := ⟨_, rfl⟩
      rw [d0, hu]
      have e1 : m <<< u = z * 2 ^ (52 - Z) := by
        rw [Nat.shiftLeft_eq]
        apply Nat.eq_of_mul_eq_mul_right (two_pos (Z + c - 56))
        rw [Nat.mul_assoc, ← Nat.pow_add, Nat.mul_assoc, ← Nat.pow_add, show u + (Z + c - 56) = k by omega, show 52 - Z + (Z + c - 56) = c - 4 by omega, h]
      rw [e1]
      unfold Toward.cut
      simp [Nat.mod_one]
    · obtain ⟨d, hd⟩ : ∃ d, (((Z : Int) - 56) - e).toNat = d := ⟨_, rfl⟩
      have u0 : (e - ((Z : Int) - 56)).toNat = 0 := by omega
      rw [hd, u0, Nat.shiftLeft_zero]
      have e1 : m = z * 2 ^ (52 - Z) * 2 ^ d := by
        apply Nat.eq_of_mul_eq_mul_right (two_pos k)
        rw [h, Nat.mul_assoc, Nat.mul_assoc, ← Nat.pow_add, ← Nat.pow_add, show 52 - Z + (d + k) = c - 4 by omega]
      unfold Toward.cut
      rw [hL, Nat.min_eq_left (by omega : d ≤ L + 2), Nat.one_shiftLeft]
      have q1 : m / 2 ^ d = z * 2 ^ (52 - Z) := by rw [e1, Nat.mul_div_cancel _ (two_pos d)]
      have q2 : m % 2 ^ d = 0 := by rw [e1, Nat.mul_mod_left]
      simp only [q1, q2]
      have hp := two_pos d
      have : (2 ^ d == 0) = false := beq_eq_false_iff_ne.2 (by omega)
      simp [this]
  refine ⟨z * 2 ^ (52 - Z), (Z : Int) - 56, ?_, k1, k2, by omega, by omega, ?_⟩
  · unfold Format.nearest
    rw [if_neg hm, dbl_least, dbl_frac, hL]
    show double.word s (min ((max (e + (L : Int) - 52) (-1074) - (-1074)).toNat * double.binade + Toward.even.cut s (m <<< (e - max (e + (L : Int) - 52) (-1074)).toNat) (max (e + (L : Int) - 52) (-1074) - e).toNat) double.infRung) = _
    rw [hlast, hcut, dbl_binade, dbl_inf, show ((Z : Int) - 56 - -1074) = (Z : Int) - 56 + 1074 by omega, Nat.min_eq_left (by omega)]
  · rw [Nat.mul_assoc, ← Nat.pow_add, show 52 - Z + ((Z : Int) - 56 + 60).toNat = 56 by omega]

/-- A number that is not nought. -/
structure FNum (s : Bool) (m : Nat) (e z : Int) : Prop where
  lo : -60 ≤ e
  hi : e ≤ 60
  val : m * 2 ^ (e + 60).toNat = z.natAbs * 2 ^ 56
  sg : s = decide (z < 0)
  top : m < 9007199254740992
/-- The float with bits b stands for z sixteenths. -/
def FV (b : Nat) (z : Int) : Prop := ∃ s m e, double.read b = .number s m e ∧ (z = 0 → m = 0 ∧ -1074 ≤ e ∧ e ≤ 60) ∧ (z ≠ 0 → FNum s m e z)
theorem fv_zero (s : Bool) (e : Int) : FV (double.nearest s 0 e) 0 := by
  have : double.nearest s 0 e = double.word s 0 := by unfold Format.nearest; rw [if_pos rfl]
  rw [this]
  exact ⟨s, 0, -1074, read_zero s, fun _ => ⟨rfl, by omega, by omega⟩, fun h => absurd rfl h⟩
theorem fv_nearest {z : Int} {s : Bool} {m c : Nat} {e : Int} (hz : z ≠ 0) (hz2 : z.natAbs < 9007199254740992) (hs : s = decide (z < 0)) (hc : 60 ≤ c) (he : -(c : Int) ≤ e) (h : m * 2 ^ (e + c).toNat = z.natAbs * 2 ^ (c - 4)) :
    FV (double.nearest s m e) z := by
  obtain ⟨K, last, h1, h2, h3, h4, h5, h6⟩ := nearest_spec s (by omega) hz2 hc he h
  rw [h1]
  exact ⟨s, K, last, read_word h2 h3 (by omega) h5, fun h => absurd h hz, fun _ => ⟨h4, h5, h6, hs, h3⟩⟩
/-- What a number is in finer units. -/
theorem signed_val {s : Bool} {m : Nat} {e : Int} {z : Int} (c : Nat) (hc : 1200 ≤ c) (h0 : z = 0 → m = 0 ∧ -1074 ≤ e ∧ e ≤ 60) (h1 : z ≠ 0 → FNum s m e z) {base : Int} (hb : base ≤ e) (hb2 : -1074 ≤ base) :
    signed s m (e - base).toNat * ((2 ^ (base + c).toNat : Nat) : Int) = z * ((2 ^ (c - 4) : Nat) : Int) := by
  by_cases hz : z = 0
  · rw [(h0 hz).1, hz]
    unfold signed
    cases s <;> simp
  · obtain ⟨e1, e2, e3, e4, _⟩ := h1 hz
    have hn : m * 2 ^ (e - base).toNat * 2 ^ (base + c).toNat = z.natAbs * 2 ^ (c - 4) := by
      rw [Nat.mul_assoc, ← Nat.pow_add, show (e - base).toNat + (base + c).toNat = (e + 60).toNat + (c - 60) by omega, Nat.pow_add, ← Nat.mul_assoc, e3, Nat.mul_assoc, ← Nat.pow_add, show 56 + (c - 60) = c - 4 by omega]
    have hn' := congrArg (fun n : Nat => (n : Int)) hn
    simp only [Int.natCast_mul] at hn'
    unfold signed
    rw [Nat.shiftLeft_eq, Int.natCast_mul]
    by_cases hneg : z < 0
    · rw [e4, decide_eq_true hneg]
      simp only [if_true]
      rw [Int.neg_mul, hn', show (z.natAbs : Int) = -z by omega, Int.neg_mul, Int.neg_neg]
    · rw [e4, decide_eq_false hneg]
      simp only [Bool.false_eq_true, if_false]
      rw [hn', show (z.natAbs : Int) = z by omega]
theorem mul_pos_sign {a b z u : Int} (hb : 0 < b) (hu : 0 < u) (h : a * b = z * u) : (a = 0 ↔ z = 0) ∧ (a < 0 ↔ z < 0) := by
  constructor
  · constructor
    · intro h0
      rw [h0, Int.zero_mul] at h
      rcases Int.mul_eq_zero.1 h.symm with h | h <;> omega
    · intro h0
      rw [h0, Int.zero_mul] at h
      rcases Int.mul_eq_zero.1 h with h | h <;> omega
  · constructor
    · intro h0
      have : a * b < 0 := Int.mul_neg_of_neg_of_pos h0 hb
      rw [h] at this
      rcases Int.lt_or_le z 0 with hz | hz
      · exact hz
      · have := Int.mul_nonneg hz (Int.le_of_lt hu); omega
    · intro h0
      have : z * u < 0 := Int.mul_neg_of_neg_of_pos h0 hu
      rw [← h] at this
      rcases Int.lt_or_le a 0 with ha | ha
      · exact ha
      · have := Int.mul_nonneg ha (Int.le_of_lt hb); omega
theorem e_low {m : Nat} {e z : Int} {s : Bool} (h0 : z = 0 → m = 0 ∧ -1074 ≤ e ∧ e ≤ 60) (h1 : z ≠ 0 → FNum s m e z) : -1074 ≤ e ∧ e ≤ 60 := by
  by_cases hz : z = 0
  · exact (h0 hz).2
  · have := (h1 hz).lo; have := (h1 hz).hi; omega
/-- A sum of two numbers, written. -/
theorem sum_fv {s t : Bool} {m n : Nat} {i j a b : Int} (ha0 : a = 0 → m = 0 ∧ -1074 ≤ i ∧ i ≤ 60) (ha1 : a ≠ 0 → FNum s m i a)
    (hb0 : b = 0 → n = 0 ∧ -1074 ≤ j ∧ j ≤ 60) (hb1 : b ≠ 0 → FNum t n j b) (hab : (a + b).natAbs < 9007199254740992) :
    ∃ d, (Datum.number s m i).sum (.number t n j) = some d ∧ FV (double.write d) (a + b) := by
  have hi := e_low ha0 ha1
  have hj := e_low hb0 hb1
  refine ⟨_, rfl, ?_⟩
  obtain ⟨base, hbs⟩ : ∃ base, min i j = base := ⟨_, rfl⟩
  simp only [Format.write, hbs]
  obtain ⟨c, hc⟩ : ∃ c : Nat, c = 1200 := ⟨_, rfl⟩
  have v1 := signed_val c (by omega) ha0 ha1 (base := base) (by omega) (by omega)
  have v2 := signed_val c (by omega) hb0 hb1 (base := base) (by omega) (by omega)
  obtain ⟨T, hT⟩ : ∃ T, signed s m (i - base).toNat + signed t n (j - base).toNat = T := ⟨_, rfl⟩
  rw [hT]
  have v3 : T * ((2 ^ (base + c).toNat : Nat) : Int) = (a + b) * ((2 ^ (c - 4) : Nat) : Int) := by rw [← hT, Int.add_mul, v1, v2, Int.add_mul]
  have p1 : (0 : Int) < ((2 ^ (base + c).toNat : Nat) : Int) := by have := two_pos (base + c).toNat; omega
  have p2 : (0 : Int) < ((2 ^ (c - 4) : Nat) : Int) := by have := two_pos (c - 4); omega
  obtain ⟨s1, s2⟩ := mul_pos_sign p1 p2 v3
  by_cases hz : a + b = 0
  · rw [hz, s1.2 hz]
    exact fv_zero _ _
  · have hT0 : T ≠ 0 := fun e => hz (s1.1 e)
    rw [if_neg hT0]
    refine fv_nearest hz hab ?_ (c := c) (by omega) (by omega) ?_
    · by_cases h : T < 0
      · rw [decide_eq_true h, decide_eq_true (s2.1 h)]
      · rw [decide_eq_false h, decide_eq_false (fun g => h (s2.2 g))]
    · have := congrArg Int.natAbs v3
      rw [Int.natAbs_mul, Int.natAbs_mul, Int.natAbs_natCast, Int.natAbs_natCast] at this
      exact this
theorem FV.add {x y : Nat} {a b : Int} (hx : FV x a) (hy : FV y b) (hab : (a + b).natAbs < 9007199254740992) : ∃ r, floatBits .add .f64 x y = some r ∧ FV r (a + b) := by
  obtain ⟨s, m, i, r1, ha0, ha1⟩ := hx
  obtain ⟨t, n, j, r2, hb0, hb1⟩ := hy
  obtain ⟨d, h1, h2⟩ := sum_fv ha0 ha1 hb0 hb1 hab
  refine ⟨double.write d, ?_, h2⟩
  show ((double.read x).sum (double.read y)).map double.write = _
  rw [r1, r2, h1]
  rfl
theorem FV.sub {x y : Nat} {a b : Int} (hx : FV x a) (hy : FV y b) (hab : (a - b).natAbs < 9007199254740992) : ∃ r, floatBits .sub .f64 x y = some r ∧ FV r (a - b) := by
  obtain ⟨s, m, i, r1, ha0, ha1⟩ := hx
  obtain ⟨t, n, j, r2, hb0, hb1⟩ := hy
  obtain ⟨d, h1, h2⟩ := sum_fv (b := -b) (t := !t) ha0 ha1 (fun h => hb0 (by omega)) (fun h => by
    obtain ⟨g1, g2, g3, g4, g5⟩ := hb1 (by omega)
    refine ⟨g1, g2, by rw [Int.natAbs_neg]; exact g3, ?_, g5⟩
    rw [g4]
    by_cases hb : b < 0
    · rw [decide_eq_true hb, decide_eq_false (by omega)]; rfl
    · rw [decide_eq_false hb, decide_eq_true (by omega)]; rfl) (by rwa [← Int.sub_eq_add_neg])
  refine ⟨double.write d, ?_, by rw [Int.sub_eq_add_neg]; exact h2⟩
  show ((double.read x).sum (double.read y).opposite).map double.write = _
  rw [r1, r2]
  show ((Datum.number s m i).sum (.number (!t) n j)).map double.write = _
  rw [h1]
  rfl
/-- A product of two numbers; of a and b sixteenths the product is p sixteenths. -/
theorem FV.mul {x y : Nat} {a b p : Int} (hx : FV x a) (hy : FV y b) (hp : a * b = 16 * p) (hab : p.natAbs < 9007199254740992) : ∃ r, floatBits .mul .f64 x y = some r ∧ FV r p := by
  obtain ⟨s, m, i, r1, ha0, ha1⟩ := hx
  obtain ⟨t, n, j, r2, hb0, hb1⟩ := hy
  refine ⟨double.nearest (s ^^ t) (m * n) (i + j), ?_, ?_⟩
  · show ((double.read x).product (double.read y)).map double.write = _
    rw [r1, r2]
    rfl
  · by_cases hz : p = 0
    · have hmn : m * n = 0 := by
        rw [hz, Int.mul_zero] at hp
        rcases Int.mul_eq_zero.1 hp with h | h
        · rw [(ha0 h).1, Nat.zero_mul]
        · rw [(hb0 h).1, Nat.mul_zero]
      rw [hmn, hz]
      exact fv_zero _ _
    · have ha : a ≠ 0 := fun h => hz (by rw [h, Int.zero_mul] at hp; omega)
      have hb : b ≠ 0 := fun h => hz (by rw [h, Int.mul_zero] at hp; omega)
      obtain ⟨g1, g2, g3, g4, _⟩ := ha1 ha
      obtain ⟨k1, k2, k3, k4, _⟩ := hb1 hb
      refine fv_nearest (c := 120) hz hab ?_ (by omega) (by omega) ?_
      · rw [g4, k4]
        rcases Int.lt_or_gt_of_ne ha with h | h <;> rcases Int.lt_or_gt_of_ne hb with g | g
        · have := Int.mul_pos_of_neg_of_neg h g
          rw [decide_eq_true h, decide_eq_true g, decide_eq_false (by omega)]; rfl
        · have := Int.mul_neg_of_neg_of_pos h g
          rw [decide_eq_true h, decide_eq_false (by omega), decide_eq_true (by omega)]; rfl
        · have := Int.mul_neg_of_pos_of_neg h g
          rw [decide_eq_false (by omega), decide_eq_true g, decide_eq_true (by omega)]; rfl
        · have := Int.mul_pos h g
          rw [decide_eq_false (by omega), decide_eq_false (by omega), decide_eq_false (by omega)]; rfl
      · have e1 : (i + j + ((120 : Nat) : Int)).toNat = (i + 60).toNat + (j + 60).toNat := by omega
        rw [e1, Nat.pow_add, Nat.mul_mul_mul_comm, g3, k3, Nat.mul_mul_mul_comm, ← Int.natAbs_mul, hp, Int.natAbs_mul, show (16 : Int).natAbs = 16 from rfl, Nat.mul_comm 16, Nat.mul_assoc]
theorem FV.order {x y : Nat} {a b : Int} (hx : FV x a) (hy : FV y b) : double.order x y = some (compare a b) := by
  obtain ⟨s, m, i, r1, ha0, ha1⟩ := hx
  obtain ⟨t, n, j, r2, hb0, hb1⟩ := hy
  have hi := e_low ha0 ha1
  have hj := e_low hb0 hb1
  show (double.read x).order (double.read y) = _
  rw [r1, r2]
  obtain ⟨base, hbs⟩ : ∃ base, min i j = base := ⟨_, rfl⟩
  show some (compare (signed s m (i - min i j).toNat) (signed t n (j - min i j).toNat)) = _
  rw [hbs]
  obtain ⟨c, hc⟩ : ∃ c : Nat, c = 1200 := ⟨_, rfl⟩
  have v1 := signed_val c (by omega) ha0 ha1 (base := base) (by omega) (by omega)
  have v2 := signed_val c (by omega) hb0 hb1 (base := base) (by omega) (by omega)
  generalize signed s m (i - base).toNat = A at v1 ⊢
  generalize signed t n (j - base).toNat = B at v2 ⊢
  have p1 : (0 : Int) < ((2 ^ (base + c).toNat : Nat) : Int) := by have := two_pos (base + c).toNat; omega
  have p2 : (0 : Int) < ((2 ^ (c - 4) : Nat) : Int) := by have := two_pos (c - 4); omega
  have v3 : (A - B) * ((2 ^ (base + c).toNat : Nat) : Int) = (a - b) * ((2 ^ (c - 4) : Nat) : Int) := by rw [Int.sub_mul, v1, v2, Int.sub_mul]
  obtain ⟨s1, s2⟩ := mul_pos_sign p1 p2 v3
  congr 1
  show compareOfLessAndEq A B = compareOfLessAndEq a b
  unfold compareOfLessAndEq
  by_cases h : a < b
  · rw [if_pos h, if_pos (by have := s2.2 (by omega); omega)]
  · rw [if_neg h, if_neg (by intro g; have := s2.1 (by omega); omega)]
    by_cases e : a = b
    · rw [if_pos e, if_pos (by have := s1.2 (by omega); omega)]
    · rw [if_neg e, if_neg (by intro g; have := s1.1 (by omega); omega)]
end Go.Proofs.Ytigmgnoiinljpaa

/- Floats that stand for sixteenths: made of whole numbers, turned into whole numbers, halved; some constants. Condition: below 2^53 sixteenths. -/
namespace Go.Proofs.Ytigmgnoiinljpaa
open Ieee

theorem FV.ofInt {n : Int} (h : n.natAbs < 562949953421312) : FV (floatOfInt .f64 n) (16 * n) := by
  show FV (double.nearest (n < 0) n.natAbs 0) (16 * n)
  by_cases h0 : n = 0
  · subst h0
    exact fv_zero _ _
  · refine fv_nearest (c := 60) (by omega) (by omega) ?_ (by omega) (by omega) ?_
    · by_cases hn : n < 0
      · rw [decide_eq_true hn, decide_eq_true (by omega)]
      · rw [decide_eq_false hn, decide_eq_false (by omega)]
    · rw [show ((0 : Int) + ((60 : Nat) : Int)).toNat = 60 from rfl, Int.natAbs_mul, show (16 : Int).natAbs = 16 from rfl]
      omega
theorem FV.c0 : FV 0 0 := ⟨false, 0, -1074, rfl, fun _ => ⟨rfl, by omega, by omega⟩, fun h => absurd rfl h⟩
theorem FV.c1 : FV 4607182418800017408 16 := ⟨false, 4503599627370496, -52, rfl, fun h => by omega, fun _ => ⟨by omega, by omega, rfl, rfl, by omega⟩⟩
theorem FV.c2 : FV 4611686018427387904 32 := ⟨false, 4503599627370496, -51, rfl, fun h => by omega, fun _ => ⟨by omega, by omega, rfl, rfl, by omega⟩⟩
theorem FV.cHalf : FV 4602678819172646912 8 := ⟨false, 4503599627370496, -53, rfl, fun h => by omega, fun _ => ⟨by omega, by omega, rfl, rfl, by omega⟩⟩
theorem FV.cQuarter : FV 4598175219545276416 4 := ⟨false, 4503599627370496, -54, rfl, fun h => by omega, fun _ => ⟨by omega, by omega, rfl, rfl, by omega⟩⟩
/-- Cut towards zero. -/
theorem cut_zero' (s : Bool) (n d : Nat) : Toward.zero.cut s n d = n / 2 ^ (min d (n.log2 + 2)) := by
  unfold Toward.cut
  simp only [Nat.one_shiftLeft]
  rfl
theorem FV.toInt {x : Nat} {z : Int} (hx : FV x z) (hz : z.natAbs < 9007199254740992) : floatToIntVal .f64 x .i64 = some (z.tdiv 16) := by
  obtain ⟨s, m, e, r, h0, h1⟩ := hx
  have hd : (double.read x).toInt .zero = some (z.tdiv 16) := by
    rw [r]
    show some (signed s (Toward.zero.cut s (m <<< e.toNat) (-e).toNat) 0) = _
    congr 1
    rw [cut_zero']
    by_cases hz0 : z = 0
    · rw [(h0 hz0).1, hz0]
      unfold signed
      cases s <;> simp
    · obtain ⟨g1, g2, g3, g4, g5⟩ := h1 hz0
      have key : m <<< e.toNat / 2 ^ min (-e).toNat ((m <<< e.toNat).log2 + 2) = z.natAbs / 16 := by
        rcases Int.le_total 0 e with he | he
        · rw [show (-e).toNat = 0 by omega, Nat.zero_min, Nat.pow_zero, Nat.div_one, Nat.shiftLeft_eq]
          have : m * 2 ^ e.toNat * 2 ^ 60 = z.natAbs * 2 ^ 56 := by rw [Nat.mul_assoc, ← Nat.pow_add, show e.toNat + 60 = (e + 60).toNat by omega, g3]
          omega
        · rw [show e.toNat = 0 by omega, Nat.shiftLeft_zero]
          obtain ⟨d, hd⟩ : ∃ d, (-e).toNat = d := ⟨_, rfl⟩
          rw [hd]
          have hm : m * 2 ^ (60 - d) = z.natAbs * 2 ^ 56 := by rw [show 60 - d = (e + 60).toNat by omega, g3]
          have hm16 : m * 2 ^ 60 = z.natAbs * 2 ^ 56 * 2 ^ d := by rw [← hm, Nat.mul_assoc, ← Nat.pow_add, show 60 - d + d = 60 by omega]
          have hq : m / 2 ^ d = z.natAbs / 16 := by
            have e1 : m / 2 ^ d = m * 2 ^ 60 / (2 ^ d * 2 ^ 60) := (Nat.mul_div_mul_right _ _ (two_pos 60)).symm
            rw [e1, hm16, Nat.mul_comm (2 ^ d) (2 ^ 60), Nat.mul_div_mul_right _ _ (two_pos d)]
            omega
          rcases Nat.le_total d (m.log2 + 2) with hle | hle
          · rw [Nat.min_eq_left hle, hq]
          · rw [Nat.min_eq_right hle, ← hq]
            have l2 : m < 2 ^ (m.log2 + 1) := Nat.lt_log2_self
            rw [Nat.div_eq_of_lt (Nat.lt_trans l2 (Nat.pow_lt_pow_right (by omega) (by omega))), Nat.div_eq_of_lt (Nat.lt_of_lt_of_le l2 (Nat.pow_le_pow_right (by omega) (by omega)))]
      rw [key]
      unfold signed
      rw [Nat.shiftLeft_zero]
      by_cases hn : z < 0
      · rw [g4, decide_eq_true hn]
        simp only [if_true]
        rw [show z = -(z.natAbs : Int) by omega, Int.neg_tdiv, Int.natAbs_neg, Int.natAbs_natCast]
        congr 1
      · rw [g4, decide_eq_false hn]
        simp only [Bool.false_eq_true, if_false]
        rw [show z = (z.natAbs : Int) by omega, Int.natAbs_natCast]
        rfl
  unfold floatToIntVal
  rw [show FloatKind.f64.decode x = double.read x from rfl, hd]
  have h2 : z.tdiv 16 = Int.tdiv z 16 := rfl
  have hb : (z.tdiv 16).natAbs ≤ z.natAbs := by rw [Int.natAbs_tdiv]; exact Nat.div_le_self _ _
  have hmin : IntKind.i64.min = -9223372036854775808 := rfl
  have hmax : IntKind.i64.max = 9223372036854775807 := rfl
  simp only [hmin, hmax]
  rw [if_pos (by omega)]
/-- The half of an even number. -/
theorem FV.half {x : Nat} {z q : Int} (hx : FV x z) (hq : z = 2 * q) (hz : z.natAbs < 9007199254740992) : ∃ r, floatBits .quo .f64 x 4611686018427387904 = some r ∧ FV r q := by
  obtain ⟨s, m, e, r, h0, h1⟩ := hx
  have r2 : double.read 4611686018427387904 = .number false 4503599627370496 (-51) := rfl
  obtain ⟨L, hL⟩ : ∃ L, 54 + (4503599627370496 : Nat).log2 - m.log2 = L := ⟨_, rfl⟩
  have hdiv : floatBits .quo .f64 x 4611686018427387904 = some (double.nearest (s ^^ false) (2 * (m <<< L / 4503599627370496) + (m <<< L % 4503599627370496 != 0).toNat) (e - (-51) - L - 1)) := by
    show ((double.read x).quotient 54 (double.read 4611686018427387904)).map double.write = _
    rw [r, r2]
    have hq0 : (Datum.number s m e).quotient 54 (.number false 4503599627370496 (-51)) = some (.number (s ^^ false) (2 * (m <<< (54 + (4503599627370496 : Nat).log2 - m.log2) / 4503599627370496) + (m <<< (54 + (4503599627370496 : Nat).log2 - m.log2) % 4503599627370496 != 0).toNat) (e - (-51) - (54 + (4503599627370496 : Nat).log2 - m.log2 : Nat) - 1)) := by
      rfl
    rw [hq0, hL]
    rfl
  refine ⟨_, hdiv, ?_⟩
  by_cases hz0 : z = 0
  · have : q = 0 := by omega
    rw [(h0 hz0).1, this, Nat.zero_shiftLeft]
    exact fv_zero _ _
  · obtain ⟨g1, g2, g3, g4, g5⟩ := h1 hz0
    have hm0 : m ≠ 0 := fun h => by rw [h, Nat.zero_mul] at g3; have := Nat.mul_pos (show 0 < z.natAbs by omega) (two_pos 56); omega
    have l52 : (4503599627370496 : Nat).log2 = 52 := rfl
    have hmb : m.log2 ≤ 52 := by
      rcases Nat.lt_or_ge 52 m.log2 with h | h
      · have a1 : 2 ^ 53 ≤ m := Nat.le_trans (Nat.pow_le_pow_right (by omega) h) (Nat.log2_self_le hm0)
        have : (2 : Nat) ^ 53 = 9007199254740992 := rfl
        omega
      · exact h
    have hL54 : 54 ≤ L := by omega
    have hL2 : L ≤ 106 := by omega
    have e1 : m <<< L = m * 2 ^ (L - 52) * 4503599627370496 := by
      rw [Nat.shiftLeft_eq, Nat.mul_assoc, show (4503599627370496 : Nat) = 2 ^ 52 from rfl, ← Nat.pow_add, show L - 52 + 52 = L by omega]
    have e2 : 2 * (m <<< L / 4503599627370496) + (m <<< L % 4503599627370496 != 0).toNat = m * 2 ^ (L - 51) := by
      rw [e1, Nat.mul_div_cancel _ (by omega), Nat.mul_mod_left, show L - 51 = L - 52 + 1 by omega, Nat.pow_succ]
      show 2 * (m * 2 ^ (L - 52)) + 0 = _
      rw [Nat.add_zero, ← Nat.mul_assoc, Nat.mul_comm 2 m, Nat.mul_assoc, Nat.mul_comm 2]
    rw [e2, Bool.xor_false]
    refine fv_nearest (c := 200) (by omega) (by omega) ?_ (by omega) (by omega) ?_
    · rw [g4]
      by_cases hn : z < 0
      · rw [decide_eq_true hn, decide_eq_true (by omega)]
      · rw [decide_eq_false hn, decide_eq_false (by omega)]
    · have hq2 : z.natAbs = 2 * q.natAbs := by omega
      have : m * 2 ^ (L - 51) * 2 ^ (e - -51 - (L : Int) - 1 + ((200 : Nat) : Int)).toNat = m * 2 ^ (e + 60).toNat * 2 ^ 139 := by
        rw [Nat.mul_assoc, Nat.mul_assoc, ← Nat.pow_add, ← Nat.pow_add]
        congr 2
        omega
      rw [this, g3, hq2, Nat.mul_comm 2, Nat.mul_assoc, Nat.mul_assoc]
end Go.Proofs.Ytigmgnoiinljpaa

/- Floats far from nought: what whole numbers beyond 2^48 are rounded to stays far from nought, with its sign, through a product by one, a sum with a place, and a comparison with one. No condition beyond those that each lemma states. -/
namespace Go.Proofs.Ytigmgnoiinljpaa
open Ieee

/-- The float with bits b is a number with the sign s, from 2^lo on, below 2^(hi+1). -/
def BV (b : Nat) (s : Bool) (lo hi : Int) : Prop := ∃ m e, double.read b = .number s m e ∧ 4503599627370496 ≤ m ∧ m < 9007199254740992 ∧ lo ≤ e + 52 ∧ e + 52 ≤ hi
theorem BV.mono {b : Nat} {s : Bool} {lo hi lo' hi' : Int} (h : BV b s lo hi) (h1 : lo' ≤ lo) (h2 : hi ≤ hi') : BV b s lo' hi' := by
  obtain ⟨m, e, r, a1, a2, a3, a4⟩ := h
  exact ⟨m, e, r, a1, a2, by omega, by omega⟩
theorem cut_bounds (s : Bool) {n d : Nat} (h : d ≤ n.log2 + 2) : n / 2 ^ d ≤ Toward.even.cut s n d ∧ Toward.even.cut s n d ≤ n / 2 ^ d + 1 := by
  unfold Toward.cut
  rw [Nat.min_eq_left h, Nat.one_shiftLeft]
  simp only
  have hb : ∀ b : Bool, b.toNat ≤ 1 := fun b => by cases b <;> simp
  constructor
  · exact Nat.le_add_right _ _
  · exact Nat.add_le_add_left (hb _) _
theorem nearest_big (s : Bool) {m : Nat} {e lo hi : Int} (hm : m ≠ 0) (h1 : lo ≤ (m.log2 : Int) + e) (h2 : (m.log2 : Int) + e ≤ hi) (h3 : 0 ≤ lo) (h4 : hi ≤ 100) : BV (double.nearest s m e) s lo (hi + 1) := by
  obtain ⟨L, hL⟩ : ∃ L, m.log2 = L := ⟨_, rfl⟩
  have l1 : 2 ^ L ≤ m := hL ▸ Nat.log2_self_le hm
  have l2 : m < 2 ^ (L + 1) := hL ▸ Nat.lt_log2_self
  rw [hL] at h1 h2
  have hlast : max (e + (L : Int) - 52) (-1074) = e + (L : Int) - 52 := by omega
  obtain ⟨last, hla⟩ : ∃ last, e + (L : Int) - 52 = last := ⟨_, rfl⟩
  obtain ⟨K, hK⟩ : ∃ K, Toward.even.cut s (m <<< (e - last).toNat) (last - e).toNat = K := ⟨_, rfl⟩
  have hKb : 4503599627370496 ≤ K ∧ K ≤ 9007199254740992 := by
    rw [← hK]
    rcases Nat.le_total L 52 with hle | hle
    · rw [show (last - e).toNat = 0 by omega, show (e - last).toNat = 52 - L by omega, Nat.shiftLeft_eq]
      have c := cut_bounds s (n := m * 2 ^ (52 - L)) (d := 0) (Nat.zero_le _)
      rw [Nat.pow_zero, Nat.div_one] at c
      have k1 : 4503599627370496 ≤ m * 2 ^ (52 - L) := by
        have := Nat.mul_le_mul_right (2 ^ (52 - L)) l1
        rw [← Nat.pow_add, show L + (52 - L) = 52 by omega] at this
        exact this
      have k2 : m * 2 ^ (52 - L) < 9007199254740992 := by
        have := Nat.mul_lt_mul_of_pos_right l2 (two_pos (52 - L))
        rw [← Nat.pow_add, show L + 1 + (52 - L) = 53 by omega] at this
        exact this
      omega
    · obtain ⟨d, hd⟩ : ∃ d, (last - e).toNat = d := ⟨_, rfl⟩
      rw [hd, show (e - last).toNat = 0 by omega, Nat.shiftLeft_zero]
      have c := cut_bounds s (n := m) (d := d) (by omega)
      have hdl : d = L - 52 := by omega
      have k1 : 4503599627370496 ≤ m / 2 ^ d := by
        rw [Nat.le_div_iff_mul_le (two_pos d)]
        have : (4503599627370496 : Nat) * 2 ^ d = 2 ^ L := by
          rw [show (4503599627370496 : Nat) = 2 ^ 52 from rfl, ← Nat.pow_add, show 52 + d = L by omega]
        omega
      have k2 : m / 2 ^ d < 9007199254740992 := by
        rw [Nat.div_lt_iff_lt_mul (two_pos d)]
        have : (9007199254740992 : Nat) * 2 ^ d = 2 ^ (L + 1) := by
          rw [show (9007199254740992 : Nat) = 2 ^ 53 from rfl, ← Nat.pow_add, show 53 + d = L + 1 by omega]
        omega
      omega
  have hn : double.nearest s m e = double.word s ((last + 1074).toNat * 4503599627370496 + K) := by
    unfold Format.nearest
    rw [if_neg hm, dbl_least, dbl_frac, hL]
    show double.word s (min ((max (e + (L : Int) - 52) (-1074) - (-1074)).toNat * double.binade + Toward.even.cut s (m <<< (e - max (e + (L : Int) - 52) (-1074)).toNat) (max (e + (L : Int) - 52) (-1074) - e).toNat) double.infRung) = _
    rw [hlast, hla, hK, dbl_binade, dbl_inf, show (last - -1074) = last + 1074 by omega, Nat.min_eq_left (by omega)]
  rw [hn]
  by_cases hk : K = 9007199254740992
  · subst hk
    refine ⟨4503599627370496, last + 1, ?_, by omega, by omega, by omega, by omega⟩
    rw [show (last + 1074).toNat * 4503599627370496 + 9007199254740992 = (last + 1 + 1074).toNat * 4503599627370496 + 4503599627370496 by omega]
    exact read_word (by omega) (by omega) (by omega) (by omega)
  · exact ⟨K, last, read_word hKb.1 (by omega) (by omega) (by omega), hKb.1, by omega, by omega, by omega⟩
theorem log2_eq {n k : Nat} (h1 : 2 ^ k ≤ n) (h2 : n < 2 ^ (k + 1)) : n.log2 = k := by
  have hn : n ≠ 0 := by have := two_pos k; omega
  have a1 := (Nat.le_log2 hn).2 h1
  have a2 := (Nat.log2_lt hn).2 h2
  omega
theorem BV.ofInt {n : Int} (h : 281474976710656 ≤ n.natAbs) (h2 : n.natAbs ≤ 9223372036854775808) : BV (floatOfInt .f64 n) (decide (n < 0)) 48 64 := by
  show BV (double.nearest (n < 0) n.natAbs 0) (decide (n < 0)) 48 64
  have hn : n.natAbs ≠ 0 := by omega
  have a1 : 48 ≤ n.natAbs.log2 := (Nat.le_log2 hn).2 h
  have a2 : n.natAbs.log2 < 64 := (Nat.log2_lt hn).2 (by have : (2 : Nat) ^ 64 = 18446744073709551616 := rfl; omega)
  exact (nearest_big _ hn (lo := 48) (hi := 63) (by omega) (by omega) (by omega) (by omega)).mono (by omega) (by omega)
theorem BV.pos {m : Nat} (h : 4503599627370496 ≤ m) : m ≠ 0 := by omega
theorem log2_shift {m : Nat} (h1 : 4503599627370496 ≤ m) (h2 : m < 9007199254740992) (k : Nat) : (m * 2 ^ k).log2 = 52 + k := by
  refine log2_eq ?_ ?_
  · rw [Nat.pow_add]; exact Nat.mul_le_mul_right _ h1
  · rw [show 52 + k + 1 = 53 + k by omega, Nat.pow_add]; exact Nat.mul_lt_mul_of_pos_right h2 (two_pos k)
/-- A product by one. -/
theorem BV.mul_one {x : Nat} {s : Bool} {lo hi : Int} (hx : BV x s lo hi) (h0 : 0 ≤ lo) (h1 : hi ≤ 90) : ∃ r, floatBits .mul .f64 x 4607182418800017408 = some r ∧ BV r s lo (hi + 1) := by
  obtain ⟨m, e, r, a1, a2, a3, a4⟩ := hx
  refine ⟨double.nearest (s ^^ false) (m * 4503599627370496) (e + -52), ?_, ?_⟩
  · show ((double.read x).product (double.read 4607182418800017408)).map double.write = _
    rw [r, show double.read 4607182418800017408 = .number false 4503599627370496 (-52) from rfl]
    rfl
  · have hl := log2_shift a1 a2 52
    rw [show (2 : Nat) ^ 52 = 4503599627370496 from rfl] at hl
    rw [Bool.xor_false]
    exact nearest_big s (by omega) (by rw [hl]; omega) (by rw [hl]; omega) h0 (by omega)
theorem signed_natAbs (s : Bool) (m k : Nat) : (signed s m k).natAbs = m * 2 ^ k := by
  unfold signed
  rw [Nat.shiftLeft_eq]
  cases s
  · simp only [Bool.false_eq_true, if_false]; omega
  · simp only [if_true]; omega
theorem signed_sign (s : Bool) {m : Nat} (h : m ≠ 0) (k : Nat) : decide (signed s m k < 0) = s ∧ signed s m k ≠ 0 := by
  have hp : 0 < m * 2 ^ k := Nat.mul_pos (by omega) (two_pos k)
  unfold signed
  rw [Nat.shiftLeft_eq]
  cases s
  · simp only [Bool.false_eq_true, if_false]
    exact ⟨decide_eq_false (by omega), by omega⟩
  · simp only [if_true]
    exact ⟨decide_eq_true (by omega), by omega⟩
/-- A sum with a place: a far one stays far. -/
theorem sum_bv {s t : Bool} {m n : Nat} {i j a lo hi : Int} (ha0 : a = 0 → m = 0 ∧ -1074 ≤ i ∧ i ≤ 60) (ha1 : a ≠ 0 → FNum s m i a)
    (b1 : 4503599627370496 ≤ n) (b2 : n < 9007199254740992) (b3 : lo ≤ j + 52) (b4 : j + 52 ≤ hi) (h1 : 45 ≤ lo) (h2 : hi ≤ 90) (hab : a.natAbs ≤ 17592186044416) :
    ∃ d, (Datum.number s m i).sum (.number t n j) = some d ∧ BV (double.write d) t (lo - 1) (hi + 2) := by
  have hi' := e_low ha0 ha1
  refine ⟨_, rfl, ?_⟩
  obtain ⟨base, hbs⟩ : ∃ base, min i j = base := ⟨_, rfl⟩
  simp only [Format.write, hbs]
  obtain ⟨c, hc⟩ : ∃ c : Nat, c = 1200 := ⟨_, rfl⟩
  have v1 := signed_val c (by omega) ha0 ha1 (base := base) (by omega) (by omega)
  have sg := signed_sign t (BV.pos b1) (j - base).toNat
  have na := signed_natAbs t n (j - base).toNat
  obtain ⟨A, hA⟩ : ∃ A, signed s m (i - base).toNat = A := ⟨_, rfl⟩
  obtain ⟨B, hB⟩ : ∃ B, signed t n (j - base).toNat = B := ⟨_, rfl⟩
  rw [hA] at v1
  rw [hB] at sg na
  rw [hA, hB]
  obtain ⟨q, hq⟩ : ∃ q, (base + c).toNat = q := ⟨_, rfl⟩
  rw [hq] at v1
  -- |A| 2^q = |a| 2^(c-4), |B| 2^q = n 2^(j+c)
  have w1 : A.natAbs * 2 ^ q = a.natAbs * 2 ^ (c - 4) := by
    have := congrArg Int.natAbs v1
    rw [Int.natAbs_mul, Int.natAbs_mul, Int.natAbs_natCast, Int.natAbs_natCast] at this
    exact this
  have w2 : B.natAbs * 2 ^ q = n * 2 ^ (j + c).toNat := by
    rw [na, Nat.mul_assoc, ← Nat.pow_add, show (j - base).toNat + q = (j + c).toNat by omega]
  -- in units of 2^(c+44-4)
  have u1 : A.natAbs * 2 ^ q ≤ 2 ^ (c + 40) := by
    rw [w1]
    have := Nat.mul_le_mul_right (2 ^ (c - 4)) hab
    rw [show (17592186044416 : Nat) = 2 ^ 44 from rfl, ← Nat.pow_add, show 44 + (c - 4) = c + 40 by omega] at this
    exact this
  obtain ⟨k, hk⟩ : ∃ k : Nat, (j + 52 + c).toNat = k := ⟨_, rfl⟩
  have u2 : 2 ^ k ≤ B.natAbs * 2 ^ q := by
    rw [w2]
    have := Nat.mul_le_mul_right (2 ^ (j + c).toNat) b1
    rw [show (4503599627370496 : Nat) = 2 ^ 52 from rfl, ← Nat.pow_add, show 52 + (j + c).toNat = k by omega] at this
    exact this
  have u3 : B.natAbs * 2 ^ q < 2 ^ (k + 1) := by
    rw [w2]
    have := Nat.mul_lt_mul_of_pos_right b2 (two_pos (j + c).toNat)
    rw [show (9007199254740992 : Nat) = 2 ^ 53 from rfl, ← Nat.pow_add, show 53 + (j + c).toNat = k + 1 by omega] at this
    exact this
  have u4 : 2 * 2 ^ (c + 40) ≤ 2 ^ k := by
    rw [← Nat.pow_succ']
    exact Nat.pow_le_pow_right (by omega) (by omega)
  -- T = A + B
  obtain ⟨T, hT⟩ : ∃ T, A + B = T := ⟨_, rfl⟩
  rw [hT]
  have hq0 := two_pos q
  have hAB : A.natAbs * 2 ^ q + A.natAbs * 2 ^ q ≤ B.natAbs * 2 ^ q := by omega
  have hAB' : A.natAbs + A.natAbs ≤ B.natAbs := by
    rw [← Nat.add_mul] at hAB
    exact Nat.le_of_mul_le_mul_right hAB hq0
  have hB0 : B ≠ 0 := sg.2
  have hT0 : T ≠ 0 := by omega
  have hTs : decide (T < 0) = t := by
    rw [← sg.1]
    by_cases hb : B < 0
    · rw [decide_eq_true hb, decide_eq_true (by omega)]
    · rw [decide_eq_false hb, decide_eq_false (by omega)]
  rw [if_neg hT0, hTs]
  have t1 : B.natAbs ≤ 2 * T.natAbs := by omega
  have t2 : T.natAbs ≤ 2 * B.natAbs := by omega
  have r1 : 2 ^ k ≤ 2 * T.natAbs * 2 ^ q := Nat.le_trans u2 (Nat.mul_le_mul_right _ t1)
  have r2 : T.natAbs * 2 ^ q < 2 ^ (k + 2) := by
    have := Nat.mul_le_mul_right (2 ^ q) t2
    rw [Nat.mul_assoc] at this
    rw [Nat.pow_succ 2 (k + 1)]
    omega
  have hn : T.natAbs ≠ 0 := by omega
  obtain ⟨L, hL⟩ : ∃ L, T.natAbs.log2 = L := ⟨_, rfl⟩
  have l1 : 2 ^ L ≤ T.natAbs := hL ▸ Nat.log2_self_le hn
  have l2 : T.natAbs < 2 ^ (L + 1) := hL ▸ Nat.lt_log2_self
  have e1 : L + q < k + 2 := by
    have : 2 ^ (L + q) < 2 ^ (k + 2) := by
      rw [Nat.pow_add]
      exact Nat.lt_of_le_of_lt (Nat.mul_le_mul_right _ l1) r2
    exact (Nat.pow_lt_pow_iff_right (by omega)).1 this
  have e2 : k < L + q + 2 := by
    have : 2 ^ k < 2 ^ (L + q + 2) := by
      have := Nat.mul_lt_mul_of_pos_right l2 hq0
      rw [← Nat.pow_add] at this
      rw [show L + q + 2 = L + 1 + q + 1 by omega, Nat.pow_succ]
      rw [Nat.mul_assoc] at r1
      omega
    exact (Nat.pow_lt_pow_iff_right (by omega)).1 this
  refine (nearest_big t hn (lo := lo - 1) (hi := hi + 1) ?_ ?_ (by omega) (by omega)).mono (by omega) (by omega) <;> rw [hL] <;> omega
theorem BV.add {x y : Nat} {a lo hi : Int} {t : Bool} (hx : FV x a) (hy : BV y t lo hi) (h1 : 45 ≤ lo) (h2 : hi ≤ 90) (hab : a.natAbs ≤ 17592186044416) : ∃ r, floatBits .add .f64 x y = some r ∧ BV r t (lo - 1) (hi + 2) := by
  obtain ⟨s, m, i, r1, ha0, ha1⟩ := hx
  obtain ⟨n, j, r2, b1, b2, b3, b4⟩ := hy
  obtain ⟨d, g1, g2⟩ := sum_bv (t := t) ha0 ha1 b1 b2 b3 b4 h1 h2 hab
  refine ⟨double.write d, ?_, g2⟩
  show ((double.read x).sum (double.read y)).map double.write = _
  rw [r1, r2, g1]
  rfl
theorem sum_comm (s t : Bool) (m n : Nat) (i j : Int) : (Datum.number s m i).sum (.number t n j) = (Datum.number t n j).sum (.number s m i) := by
  show some (Datum.number _ _ _) = some (Datum.number _ _ _)
  rw [Int.min_comm j i, Int.add_comm (signed t n _), Bool.and_comm t s]
theorem BV.add' {x y : Nat} {a lo hi : Int} {t : Bool} (hx : BV x t lo hi) (hy : FV y a) (h1 : 45 ≤ lo) (h2 : hi ≤ 90) (hab : a.natAbs ≤ 17592186044416) : ∃ r, floatBits .add .f64 x y = some r ∧ BV r t (lo - 1) (hi + 2) := by
  obtain ⟨s, m, i, r1, ha0, ha1⟩ := hy
  obtain ⟨n, j, r2, b1, b2, b3, b4⟩ := hx
  obtain ⟨d, g1, g2⟩ := sum_bv (t := t) ha0 ha1 b1 b2 b3 b4 h1 h2 hab
  refine ⟨double.write d, ?_, g2⟩
  show ((double.read x).sum (double.read y)).map double.write = _
  rw [r1, r2, sum_comm, g1]
  rfl
theorem BV.sub' {x y : Nat} {a lo hi : Int} {t : Bool} (hx : BV x t lo hi) (hy : FV y a) (h1 : 45 ≤ lo) (h2 : hi ≤ 90) (hab : a.natAbs ≤ 17592186044416) : ∃ r, floatBits .sub .f64 x y = some r ∧ BV r t (lo - 1) (hi + 2) := by
  obtain ⟨s, m, i, r1, ha0, ha1⟩ := hy
  obtain ⟨n, j, r2, b1, b2, b3, b4⟩ := hx
  obtain ⟨d, g1, g2⟩ := sum_bv (s := !s) (t := t) (a := -a) (fun h => ha0 (by omega)) (fun h => by
    obtain ⟨g1, g2, g3, g4, g5⟩ := ha1 (by omega)
    refine ⟨g1, g2, by rw [Int.natAbs_neg]; exact g3, ?_, g5⟩
    rw [g4]
    by_cases hb : a < 0
    · rw [decide_eq_true hb, decide_eq_false (by omega)]; rfl
    · rw [decide_eq_false hb, decide_eq_true (by omega)]; rfl) b1 b2 b3 b4 h1 h2 (by rw [Int.natAbs_neg]; exact hab)
  refine ⟨double.write d, ?_, g2⟩
  show ((double.read x).sum (double.read y).opposite).map double.write = _
  rw [r1, r2]
  show ((Datum.number t n j).sum (.number (!s) m i)).map double.write = _
  rw [sum_comm, g1]
  rfl
/-- A far one against a place. -/
theorem BV.order {x y : Nat} {a lo hi : Int} {t : Bool} (hx : BV x t lo hi) (hy : FV y a) (h1 : 45 ≤ lo) (h2 : hi ≤ 90) (hab : a.natAbs ≤ 17592186044416) : double.order x y = some (if t then .lt else .gt) := by
  obtain ⟨s, m, i, r1, ha0, ha1⟩ := hy
  obtain ⟨n, j, r2, b1, b2, b3, b4⟩ := hx
  have hi' := e_low ha0 ha1
  show (double.read x).order (double.read y) = _
  rw [r1, r2]
  obtain ⟨base, hbs⟩ : ∃ base, min j i = base := ⟨_, rfl⟩
  show some (compare (signed t n (j - min j i).toNat) (signed s m (i - min j i).toNat)) = _
  rw [hbs]
  obtain ⟨c, hc⟩ : ∃ c : Nat, c = 1200 := ⟨_, rfl⟩
  have v1 := signed_val c (by omega) ha0 ha1 (base := base) (by omega) (by omega)
  have sg := signed_sign t (BV.pos b1) (j - base).toNat
  have na := signed_natAbs t n (j - base).toNat
  obtain ⟨A, hA⟩ : ∃ A, signed s m (i - base).toNat = A := ⟨_, rfl⟩
  obtain ⟨B, hB⟩ : ∃ B, signed t n (j - base).toNat = B := ⟨_, rfl⟩
  rw [hA] at v1
  rw [hB] at sg na
  rw [hA, hB]
  obtain ⟨q, hq⟩ : ∃ q, (base + c).toNat = q := ⟨_, rfl⟩
  rw [hq] at v1
  have w1 : A.natAbs * 2 ^ q = a.natAbs * 2 ^ (c - 4) := by
    have := congrArg Int.natAbs v1
    rw [Int.natAbs_mul, Int.natAbs_mul, Int.natAbs_natCast, Int.natAbs_natCast] at this
    exact this
  have w2 : B.natAbs * 2 ^ q = n * 2 ^ (j + c).toNat := by
    rw [na, Nat.mul_assoc, ← Nat.pow_add, show (j - base).toNat + q = (j + c).toNat by omega]
  have u1 : A.natAbs * 2 ^ q ≤ 2 ^ (c + 40) := by
    rw [w1]
    have := Nat.mul_le_mul_right (2 ^ (c - 4)) hab
    rw [show (17592186044416 : Nat) = 2 ^ 44 from rfl, ← Nat.pow_add, show 44 + (c - 4) = c + 40 by omega] at this
    exact this
  have u2 : 2 ^ (j + 52 + c).toNat ≤ B.natAbs * 2 ^ q := by
    rw [w2]
    have := Nat.mul_le_mul_right (2 ^ (j + c).toNat) b1
    rw [show (4503599627370496 : Nat) = 2 ^ 52 from rfl, ← Nat.pow_add, show 52 + (j + c).toNat = (j + 52 + c).toNat by omega] at this
    exact this
  have u4 : 2 ^ (c + 40) < 2 ^ (j + 52 + c).toNat := Nat.pow_lt_pow_right (by omega) (by omega)
  have hAB : A.natAbs < B.natAbs := by
    have : A.natAbs * 2 ^ q < B.natAbs * 2 ^ q := by omega
    exact Nat.lt_of_mul_lt_mul_right this
  congr 1
  show compareOfLessAndEq B A = _
  unfold compareOfLessAndEq
  cases t
  · have := of_decide_eq_false sg.1
    rw [if_neg (by omega), if_neg (by omega)]; rfl
  · have := of_decide_eq_true sg.1
    rw [if_pos (by omega)]; rfl
theorem FV.c40 : FV 4787326403894837248 17592186044416 := ⟨false, 4503599627370496, -12, rfl, fun h => by omega, fun _ => ⟨by omega, by omega, rfl, rfl, by omega⟩⟩
/-- Made whole, towards nought. -/
theorem FV.trunc {x : Nat} {z : Int} (hx : FV x z) (h0 : 0 ≤ z) (hz : z < 9007199254740992) : FV (double.write ((double.read x).integral .zero)) (16 * (z / 16)) := by
  obtain ⟨s, m, e, r, h1, h2⟩ := hx
  rw [r]
  show FV (double.nearest s (Toward.zero.cut s (m <<< e.toNat) (-e).toNat) 0) _
  have hi := FV.toInt ⟨s, m, e, r, h1, h2⟩ (by omega)
  have key : (Toward.zero.cut s (m <<< e.toNat) (-e).toNat) = (z / 16).toNat := by
    by_cases hz0 : z = 0
    · rw [(h1 hz0).1, hz0, cut_zero', Nat.zero_shiftLeft, Nat.zero_div]; rfl
    · have hd : floatToIntVal .f64 x .i64 = some (z / 16) := by
        rw [hi]
        have : z.tdiv 16 = z / 16 := by rw [Int.tdiv_eq_ediv_of_nonneg h0]
        rw [this]
      unfold floatToIntVal at hd
      rw [show FloatKind.f64.decode x = double.read x from rfl, r] at hd
      have hs : s = false := by rw [(h2 hz0).sg]; exact decide_eq_false (by omega)
      subst hs
      have hv : (Datum.number false m e).toInt .zero = some (signed false (Toward.zero.cut false (m <<< e.toNat) (-e).toNat) 0) := rfl
      rw [hv] at hd
      simp only at hd
      split at hd
      · have e := Option.some.inj hd
        unfold signed at e
        simp only [Bool.false_eq_true, if_false, Nat.shiftLeft_zero] at e
        omega
      · cases hd
  rw [key]
  by_cases hz1 : z / 16 = 0
  · rw [hz1]
    exact fv_zero _ _
  · have hs : s = false := by rw [(h2 (by omega)).sg]; exact decide_eq_false (by omega)
    have := FV.ofInt (n := z / 16) (by omega)
    have e : floatOfInt .f64 (z / 16) = double.nearest s (z / 16).toNat 0 := by
      show double.nearest (decide (z / 16 < 0)) (z / 16).natAbs 0 = _
      rw [hs, decide_eq_false (by omega), show (z / 16).natAbs = (z / 16).toNat by omega]
    rw [← e]
    exact this
end Go.Proofs.Ytigmgnoiinljpaa
