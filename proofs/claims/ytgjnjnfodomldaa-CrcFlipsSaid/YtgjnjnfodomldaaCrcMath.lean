/- The mathematics of the sums of bytes: the register's turn is linear, has an inverse on 32 digits, and does not come back within 4000 turns. Plain numbers and lists. No condition beyond those that each lemma states. -/
namespace Go.Proofs.Ytgjnjnfodomldaa

/-- One turn of the register. -/
def tn (r : Nat) : Nat := (r / 2) ^^^ (if r % 2 = 1 then 3988292384 else 0)
def tnk : Nat → Nat → Nat
  | 0, r => r
  | k + 1, r => tnk k (tn r)
/-- The register behind one byte more. -/
def bt (r c : Nat) : Nat := tnk 8 (r ^^^ c)
/-- The register behind bytes more. -/
def mr (r : Nat) (l : List Nat) : Nat := l.foldl bt r
def inv (r : Nat) : Nat := 4294967295 - r
/-- crc.More. -/
def ms (s : Nat) (l : List Nat) : Nat := inv (mr (inv s) l)
/-- crc.Sum of all bytes. -/
def sm (l : List Nat) : Nat := ms 0 l

theorem xor_lt {a b : Nat} (ha : a < 4294967296) (hb : b < 4294967296) : a ^^^ b < 4294967296 := Nat.xor_lt_two_pow (n := 32) ha hb
theorem xor_half (a b : Nat) : (a ^^^ b) / 2 = (a / 2) ^^^ (b / 2) := by
  have h : ∀ x : Nat, x / 2 = x >>> 1 := fun x => by rw [Nat.shiftRight_eq_div_pow]
  rw [h, h, h, Nat.shiftRight_xor_distrib]
theorem xor_odd (a b : Nat) : (a ^^^ b) % 2 = (a + b) % 2 := by
  have h := @Nat.xor_mod_two_eq_one a b
  omega
theorem tn_lt {r : Nat} (h : r < 4294967296) : tn r < 4294967296 := by
  unfold tn
  split
  · exact xor_lt (by omega) (by omega)
  · exact xor_lt (by omega) (by omega)
theorem tnk_lt (k : Nat) : ∀ {r : Nat}, r < 4294967296 → tnk k r < 4294967296 := by
  induction k with
  | zero => exact fun h => h
  | succ k ih => exact fun h => ih (tn_lt h)
theorem bt_lt {r c : Nat} (hr : r < 4294967296) (hc : c < 256) : bt r c < 4294967296 := tnk_lt 8 (xor_lt hr (by omega))
theorem mr_nil (r : Nat) : mr r [] = r := rfl
theorem mr_cons (r c : Nat) (l : List Nat) : mr r (c :: l) = mr (bt r c) l := rfl
theorem mr_append (r : Nat) (a b : List Nat) : mr r (a ++ b) = mr (mr r a) b := List.foldl_append ..
theorem mr_snoc (r : Nat) (a : List Nat) (c : Nat) : mr r (a ++ [c]) = bt (mr r a) c := by rw [mr_append]; rfl
theorem mr_lt (l : List Nat) : ∀ {r : Nat}, r < 4294967296 → (∀ c ∈ l, c < 256) → mr r l < 4294967296 := by
  induction l with
  | nil => exact fun h _ => h
  | cons c l ih => exact fun h hb => ih (bt_lt h (hb c (List.mem_cons_self ..))) (fun x hx => hb x (List.mem_cons_of_mem _ hx))
theorem inv_lt (r : Nat) : inv r < 4294967296 := by unfold inv; omega
theorem inv_inv {r : Nat} (h : r < 4294967296) : inv (inv r) = r := by unfold inv; omega
theorem inv_inj {a b : Nat} (ha : a < 4294967296) (hb : b < 4294967296) (h : inv a = inv b) : a = b := by unfold inv at h; omega
theorem ms_lt (s : Nat) (l : List Nat) : ms s l < 4294967296 := inv_lt _
theorem ms_nil {s : Nat} (h : s < 4294967296) : ms s [] = s := inv_inv h
theorem sm_nil : sm [] = 0 := ms_nil (by omega)
theorem ms_append (s : Nat) (a b : List Nat) (ha : ∀ c ∈ a, c < 256) : ms s (a ++ b) = ms (ms s a) b := by
  unfold ms
  rw [mr_append, inv_inv (mr_lt a (inv_lt _) ha)]
theorem sm_append (a b : List Nat) (ha : ∀ c ∈ a, c < 256) : sm (a ++ b) = ms (sm a) b := ms_append 0 a b ha

/-! ### The turn is linear -/
theorem tn_zero : tn 0 = 0 := by decide
theorem tnk_zero (k : Nat) : tnk k 0 = 0 := by
  induction k with
  | zero => rfl
  | succ k ih => rw [tnk, tn_zero, ih]
theorem xor4 (a b c d : Nat) : (a ^^^ b) ^^^ (c ^^^ d) = (a ^^^ c) ^^^ (b ^^^ d) := by
  rw [Nat.xor_assoc, ← Nat.xor_assoc b c d, Nat.xor_comm b c, Nat.xor_assoc c b d, ← Nat.xor_assoc]
theorem tn_xor (a b : Nat) : tn (a ^^^ b) = tn a ^^^ tn b := by
  unfold tn
  rw [xor_half, xor4 (a / 2) _ (b / 2) _]
  congr 1
  have h := xor_odd a b
  rcases Nat.mod_two_eq_zero_or_one a with ha | ha <;> rcases Nat.mod_two_eq_zero_or_one b with hb | hb
  · rw [if_neg (by omega), if_neg (by omega), if_neg (by omega), Nat.xor_self]
  · rw [if_pos (by omega), if_neg (by omega), if_pos (by omega), Nat.zero_xor]
  · rw [if_pos (by omega), if_pos (by omega), if_neg (by omega), Nat.xor_zero]
  · rw [if_neg (by omega), if_pos (by omega), if_pos (by omega), Nat.xor_self]
theorem tnk_xor (k : Nat) : ∀ a b : Nat, tnk k (a ^^^ b) = tnk k a ^^^ tnk k b := by
  induction k with
  | zero => exact fun _ _ => rfl
  | succ k ih => intro a b; rw [tnk, tn_xor, ih]; rfl
theorem tnk_add (j k r : Nat) : tnk (j + k) r = tnk k (tnk j r) := by
  induction j generalizing r with
  | zero => rw [Nat.zero_add]; rfl
  | succ j ih => rw [show j + 1 + k = (j + k) + 1 by omega, tnk, ih]; rfl
theorem bt_xor (r s c d : Nat) : bt (r ^^^ s) (c ^^^ d) = bt r c ^^^ bt s d := by
  unfold bt
  rw [xor4, tnk_xor]
theorem mr_xor (l m : List Nat) (h : l.length = m.length) : ∀ r s : Nat, mr (r ^^^ s) (List.zipWith (· ^^^ ·) l m) = mr r l ^^^ mr s m := by
  induction l generalizing m with
  | nil => cases m with
    | nil => exact fun _ _ => rfl
    | cons => simp at h
  | cons c l ih => cases m with
    | nil => simp at h
    | cons d m =>
      intro r s
      rw [List.zipWith_cons_cons, mr_cons, mr_cons, mr_cons, bt_xor]
      exact ih m (by simpa using h) _ _

/-! ### .. and has an inverse -/
theorem tn_eq_zero {z : Nat} (h : z < 4294967296) (hz : tn z = 0) : z = 0 := by
  unfold tn at hz
  split at hz
  · exfalso
    have e : z / 2 = 3988292384 := by
      have := congrArg (· ^^^ 3988292384) hz
      simpa [Nat.xor_assoc] using this
    omega
  · rw [Nat.xor_zero] at hz
    omega
theorem tnk_eq_zero (k : Nat) : ∀ {z : Nat}, z < 4294967296 → tnk k z = 0 → z = 0 := by
  induction k with
  | zero => exact fun _ h => h
  | succ k ih => exact fun h hz => tn_eq_zero h (ih (tn_lt h) hz)
theorem xor_eq_zero {a b : Nat} (h : a ^^^ b = 0) : a = b := by
  have := congrArg (· ^^^ b) h
  simpa [Nat.xor_assoc] using this
theorem tnk_inj (k : Nat) {a b : Nat} (ha : a < 4294967296) (hb : b < 4294967296) (h : tnk k a = tnk k b) : a = b := by
  refine xor_eq_zero (tnk_eq_zero k (xor_lt ha hb) ?_)
  rw [tnk_xor, h, Nat.xor_self]
theorem mr_zeros (n : Nat) : ∀ r : Nat, mr r (List.replicate n 0) = tnk (8 * n) r := by
  induction n with
  | zero => exact fun _ => rfl
  | succ n ih => intro r; rw [List.replicate_succ, mr_cons, ih, bt, Nat.xor_zero, ← tnk_add, show 8 + 8 * n = 8 * (n + 1) by omega]
theorem tn_double {x : Nat} : tn (2 * x) = x := by
  unfold tn
  rw [if_neg (by omega), Nat.xor_zero]
  omega
theorem tnk_pow (j x : Nat) : tnk j (2 ^ j * x) = x := by
  induction j with
  | zero => simp [tnk]
  | succ j ih => rw [tnk, show 2 ^ (j + 1) * x = 2 * (2 ^ j * x) by rw [Nat.pow_succ]; ac_rfl, tn_double, ih]
theorem tnk_bit (j : Nat) : tnk j (2 ^ j) = 1 := by simpa using tnk_pow j 1

/-! ### It does not come back -/
def away : Nat → Nat → Bool
  | 0, _ => true
  | k + 1, r => (r != 1) && away k (tn r)
theorem away_spec (k : Nat) : ∀ r, away k r = true → ∀ m, m < k → tnk m r ≠ 1 := by
  induction k with
  | zero => intro r _ m h; omega
  | succ k ih =>
    intro r h m hm
    simp only [away, Bool.and_eq_true, bne_iff_ne] at h
    cases m with
    | zero => exact h.1
    | succ m => exact ih _ h.2 m (by omega)
theorem away_4000 : away 4000 (tn 1) = true := by decide +kernel
theorem no_return (m : Nat) (h0 : 0 < m) (h : m ≤ 4000) : tnk m 1 ≠ 1 := by
  obtain ⟨k, rfl⟩ : ∃ k, m = k + 1 := ⟨m - 1, by omega⟩
  exact away_spec 4000 _ away_4000 k (by omega)

/-! ### Bytes with digits turned over -/
theorem bt_xor_right (r x y : Nat) : bt r (x ^^^ y) = bt r x ^^^ tnk 8 y := by
  have := bt_xor r 0 x y
  rwa [Nat.xor_zero, show bt 0 y = tnk 8 y by rw [bt, Nat.zero_xor]] at this
theorem bt_xor_left (r s x : Nat) : bt (r ^^^ s) x = bt r x ^^^ tnk 8 s := by
  have := bt_xor r s x 0
  rwa [Nat.xor_zero, show bt s 0 = tnk 8 s by rw [bt, Nat.xor_zero]] at this
theorem mr_xor_left (l : List Nat) : ∀ r s : Nat, mr (r ^^^ s) l = mr r l ^^^ tnk (8 * l.length) s := by
  induction l with
  | nil => exact fun _ _ => rfl
  | cons c l ih =>
    intro r s
    rw [mr_cons, bt_xor_left, ih, ← tnk_add, mr_cons, List.length_cons, show 8 + 8 * l.length = 8 * (l.length + 1) by omega]
theorem mr_set (l : List Nat) : ∀ (r k y : Nat), k < l.length → mr r (l.set k (l.getD k 0 ^^^ y)) = mr r l ^^^ tnk (8 * (l.length - k)) y := by
  induction l with
  | nil => intro r k y h; simp at h
  | cons c l ih =>
    intro r k y h
    cases k with
    | zero => rw [List.set_cons_zero, List.getD_cons_zero, mr_cons, bt_xor_right, mr_xor_left, ← tnk_add, mr_cons, List.length_cons, show 8 + 8 * l.length = 8 * (l.length + 1 - 0) by omega]
    | succ k =>
      rw [List.set_cons_succ, List.getD_cons_succ, mr_cons, ih _ _ _ (by simpa using h), mr_cons, List.length_cons, show l.length + 1 - (k + 1) = l.length - k by omega]
theorem set_byte {l : List Nat} (h : ∀ x ∈ l, x < 256) (k : Nat) {y : Nat} (hy : y < 256) : ∀ x ∈ l.set k (l.getD k 0 ^^^ y), x < 256 := by
  intro x hx
  rcases List.mem_or_eq_of_mem_set hx with hx | rfl
  · exact h x hx
  · refine Nat.xor_lt_two_pow (n := 8) ?_ hy
    rw [List.getD_eq_getElem?_getD]
    cases e : l[k]? with
    | none => simp
    | some z => exact h z (List.mem_of_getElem? e)

/-- These bytes with one digit turned over. -/
def flip (l : List Nat) (i : Nat) : List Nat := l.set (i / 8) (l.getD (i / 8) 0 ^^^ 2 ^ (i % 8))
theorem flip_length (l : List Nat) (i : Nat) : (flip l i).length = l.length := by simp [flip]
theorem pow_mod8 (i : Nat) : 2 ^ (i % 8) < 256 := Nat.pow_lt_pow_right (a := 2) (n := 8) (by omega) (by omega)
theorem flip_bytes {l : List Nat} (h : ∀ x ∈ l, x < 256) (i : Nat) : ∀ x ∈ flip l i, x < 256 := set_byte h _ (pow_mod8 i)
theorem mr_flip (l : List Nat) (r i : Nat) (h : i < 8 * l.length) : mr r (flip l i) = mr r l ^^^ tnk (8 * l.length - i) 1 := by
  rw [flip, mr_set _ _ _ _ (by omega), show 8 * (l.length - i / 8) = i % 8 + (8 * l.length - i) by omega, tnk_add, tnk_bit]
theorem one_turn (m : Nat) : tnk m 1 ≠ 0 := fun h => by have := tnk_eq_zero m (by omega) h; omega
theorem sm_eq {a b : List Nat} (ha : ∀ x ∈ a, x < 256) (hb : ∀ x ∈ b, x < 256) (h : sm a = sm b) : mr (inv 0) a = mr (inv 0) b :=
  inv_inj (mr_lt a (inv_lt _) ha) (mr_lt b (inv_lt _) hb) h
theorem xor_self_eq {a b : Nat} (h : a ^^^ b = a) : b = 0 := by
  have := congrArg (a ^^^ ·) h
  simpa [← Nat.xor_assoc] using this
theorem sm_flip {l : List Nat} (hl : ∀ x ∈ l, x < 256) (i : Nat) (h : i < 8 * l.length) : sm (flip l i) ≠ sm l := by
  intro e
  have := sm_eq (flip_bytes hl i) hl e
  rw [mr_flip _ _ _ h] at this
  exact one_turn _ (xor_self_eq this)
theorem turns_apart (p q : Nat) (h : p < q) (hq : q ≤ 4000) : tnk p 1 ≠ tnk q 1 := by
  intro e
  rw [show q = (q - p) + p by omega, tnk_add] at e
  exact no_return (q - p) (by omega) (by omega) (tnk_inj p (by omega) (tnk_lt _ (by omega)) e).symm
theorem sm_flip2 {l : List Nat} (hl : ∀ x ∈ l, x < 256) (i k : Nat) (hi : i < 8 * l.length) (hk : k < 8 * l.length) (h5 : l.length ≤ 500) (hik : i ≠ k) : sm (flip (flip l i) k) ≠ sm l := by
  intro e
  have := sm_eq (flip_bytes (flip_bytes hl i) k) hl e
  rw [mr_flip _ _ _ (by rw [flip_length]; exact hk), mr_flip _ _ _ hi, Nat.xor_assoc, flip_length] at this
  have := xor_eq_zero (xor_self_eq this)
  rcases Nat.lt_or_ge i k with h | h
  · exact turns_apart _ _ (by omega) (by omega) this.symm
  · exact turns_apart _ _ (by omega) (by omega) this

/-- These bytes with the first n bytes of x, its lowest first, set against those from j on. -/
def over (l : List Nat) (j x : Nat) : Nat → List Nat
  | 0 => l
  | n + 1 => (over l j x n).set (j + n) ((over l j x n).getD (j + n) 0 ^^^ (x / 2 ^ (8 * n) % 256))
theorem over_length (l : List Nat) (j x n : Nat) : (over l j x n).length = l.length := by
  induction n with
  | zero => rfl
  | succ n ih => simp [over, ih]
theorem over_bytes {l : List Nat} (hl : ∀ x ∈ l, x < 256) (j x n : Nat) : ∀ y ∈ over l j x n, y < 256 := by
  induction n with
  | zero => exact hl
  | succ n ih => exact set_byte ih _ (by omega)
theorem mod_step (x m : Nat) : x % 2 ^ m ^^^ 2 ^ m * (x / 2 ^ m % 2 ^ 8) = x % 2 ^ (m + 8) := by
  refine Nat.eq_of_testBit_eq fun i => ?_
  rw [Nat.testBit_xor, Nat.testBit_mod_two_pow, Nat.testBit_mod_two_pow, Nat.testBit_two_pow_mul, Nat.testBit_mod_two_pow, Nat.testBit_div_two_pow]
  by_cases h : i < m
  · simp [h, show i < m + 8 by omega, show ¬ m ≤ i by omega]
  · by_cases h2 : i < m + 8
    · simp [h, h2, show m ≤ i by omega, show i - m < 8 by omega]
    · simp [h, h2, show ¬ i - m < 8 by omega]
theorem mr_over (l : List Nat) (r j x n : Nat) (h : j + n ≤ l.length) : mr r (over l j x n) = mr r l ^^^ tnk (8 * (l.length - j)) (x % 2 ^ (8 * n)) := by
  induction n with
  | zero => simp [over, Nat.mod_one, tnk_zero]
  | succ n ih =>
    have e : tnk (8 * (l.length - (j + n))) (x / 2 ^ (8 * n) % 256) = tnk (8 * (l.length - j)) (2 ^ (8 * n) * (x / 2 ^ (8 * n) % 256)) := by
      rw [show 8 * (l.length - j) = 8 * n + 8 * (l.length - (j + n)) by omega, tnk_add, tnk_pow]
    rw [over, mr_set _ _ _ _ (by rw [over_length]; omega), over_length, ih (by omega), e, Nat.xor_assoc, ← tnk_xor]
    congr 2
    exact mod_step x (8 * n)
theorem sm_over {l : List Nat} (hl : ∀ x ∈ l, x < 256) (j x : Nat) (h : j + 4 ≤ l.length) (hx : x < 4294967296) : sm (over l j x 4) = sm l ↔ x = 0 := by
  have e := mr_over l (inv 0) j x 4 h
  rw [show x % 2 ^ (8 * 4) = x from Nat.mod_eq_of_lt hx] at e
  constructor
  · intro h1
    have := sm_eq (over_bytes hl j x 4) hl h1
    rw [e] at this
    exact tnk_eq_zero _ hx (xor_self_eq this)
  · rintro rfl
    rw [tnk_zero, Nat.xor_zero] at e
    show inv _ = inv _
    rw [e]
theorem tn_def (r : Nat) : tn r = (r / 2) ^^^ (if r % 2 = 1 then 3988292384 else 0) := rfl
theorem bt_def (r c : Nat) : bt r c = tnk 8 (r ^^^ c) := rfl
theorem tnk_start (r : Nat) : tnk 0 r = r := rfl
theorem tnk_snoc (k r : Nat) : tnk (k + 1) r = tn (tnk k r) := tnk_add k 1 r
theorem mr_take (r : Nat) (l : List Nat) (k : Nat) (h : k < l.length) : mr r (l.take (k + 1)) = bt (mr r (l.take k)) l[k] := by
  rw [List.take_succ_eq_append_getElem h, mr_snoc]
theorem ms_def (s : Nat) (l : List Nat) : inv (mr (inv s) l) = ms s l := rfl
theorem sm_def (l : List Nat) : inv (mr 4294967295 l) = sm l := rfl
theorem inv_def (s : Nat) : inv s = 4294967295 - s := rfl
theorem sm_lt (l : List Nat) : sm l < 4294967296 := ms_lt 0 l
theorem sm_ms (l : List Nat) : sm l = ms 0 l := rfl
theorem sm_check : sm [49, 50, 51, 52, 53, 54, 55, 56, 57] = 3421780262 := by decide +kernel
theorem sm_one : decide (1 = sm [97]) = false := by decide +kernel
attribute [irreducible] sm ms mr inv tnk bt tn
end Go.Proofs.Ytgjnjnfodomldaa
