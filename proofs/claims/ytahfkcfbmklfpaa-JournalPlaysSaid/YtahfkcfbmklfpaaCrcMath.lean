/- The mathematics of the sums of bytes: the register's turn is linear, has an inverse on 32 digits, and does not come back within 4000 turns. Plain numbers and lists. No condition beyond those that each lemma states. -/
namespace Go.Proofs.Ytahfkcfbmklfpaa

/-- One turn of the register. -/
def tn (r : Nat) : Nat := (r / 2) ^^^ (if r % 2 = 1 then 3988292384 else 0)
def tnk : Nat → Nat → Nat
  | 0, r => r
  | k + 1, r => tnk k (tn r)
/-- The register behind one byte more. -/
def bt (r c : Nat) : Nat := tnk 8 (r ^^^ c)
/-- The register behind bytes more. -/
def mr (r : Nat) (l : List Nat) : Nat := l.foldl bt r
def inv (r : Nat) : Nat := 4294967295 - r
/-- crc.More. -/
def ms (s : Nat) (l : List Nat) : Nat := inv (mr (inv s) l)
/-- crc.Sum of all bytes. -/
def sm (l : List Nat) : Nat := ms 0 l

theorem xor_lt {a b : Nat} (ha : a < 4294967296) (hb : b < 4294967296) : a ^^^ b < 4294967296 := Nat.xor_lt_two_pow (n := 32) ha hb
theorem xor_half (a b : Nat) : (a ^^^ b) / 2 = (a / 2) ^^^ (b / 2) := by
  have h : ∀ x : Nat, x / 2 = x >>> 1 := fun x => by rw [Nat.shiftRight_eq_div_pow]
  rw [h, h, h, Nat.shiftRight_xor_distrib]
theorem xor_odd (a b : Nat) : (a ^^^ b) % 2 = (a + b) % 2 := by
  have h := @Nat.xor_mod_two_eq_one a b
  omega
theorem tn_lt {r : Nat} (h : r < 4294967296) : tn r < 4294967296 := by
  unfold tn
  split
  · exact xor_lt (by omega) (by omega)
  · exact xor_lt (by omega) (by omega)
theorem tnk_lt (k : Nat) : ∀ {r : Nat}, r < 4294967296 → tnk k r < 4294967296 := by
  induction k with
  | zero => exact fun h => h
  | succ k ih => exact fun h => ih (tn_lt h)
theorem bt_lt {r c : Nat} (hr : r < 4294967296) (hc : c < 256) : bt r c < 4294967296 := tnk_lt 8 (xor_lt hr (by omega))
theorem mr_nil (r : Nat) : mr r [] = r := rfl
theorem mr_cons (r c : Nat) (l : List Nat) : mr r (c :: l) = mr (bt r c) l := rfl
theorem mr_append (r : Nat) (a b : List Nat) : mr r (a ++ b) = mr (mr r a) b := List.foldl_append ..
theorem mr_snoc (r : Nat) (a : List Nat) (c : Nat) : mr r (a ++ [c]) = bt (mr r a) c := by rw [mr_append]; rfl
theorem mr_lt (l : List Nat) : ∀ {r : Nat}, r < 4294967296 → (∀ c ∈ l, c < 256) → mr r l < 4294967296 := by
  induction l with
  | nil => exact fun h _ => h
  | cons c l ih => exact fun h hb => ih (bt_lt h (hb c (List.mem_cons_self ..))) (fun x hx => hb x (List.mem_cons_of_mem _ hx))
theorem inv_lt (r : Nat) : inv r < 4294967296 := by unfold inv; omega
theorem inv_inv {r : Nat} (h : r < 4294967296) : inv (inv r) = r := by unfold inv; omega
theorem inv_inj {a b : Nat} (ha : a < 4294967296) (hb : b < 4294967296) (h : inv a = inv b) : a = b := by unfold inv at h; omega
theorem ms_lt (s : Nat) (l : List Nat) : ms s l < 4294967296 := inv_lt _
theorem ms_nil {s : Nat} (h : s < 4294967296) : ms s [] = s := inv_inv h
theorem sm_nil : sm [] = 0 := ms_nil (by omega)
theorem ms_append (s : Nat) (a b : List Nat) (ha : ∀ c ∈ a, c < 256) : ms s (a ++ b) = ms (ms s a) b := by
  unfold ms
  rw [mr_append, inv_inv (mr_lt a (inv_lt _) ha)]
theorem sm_append (a b : List Nat) (ha : ∀ c ∈ a, c < 256) : sm (a ++ b) = ms (sm a) b := ms_append 0 a b ha

/-! ### The turn is linear -/
theorem tnk_add (j k r : Nat) : tnk (j + k) r = tnk k (tnk j r) := by
  induction j generalizing r with
  | zero => rw [Nat.zero_add]; rfl
  | succ j ih => rw [show j + 1 + k = (j + k) + 1 by omega, tnk, ih]; rfl
theorem tn_def (r : Nat) : tn r = (r / 2) ^^^ (if r % 2 = 1 then 3988292384 else 0) := rfl
theorem bt_def (r c : Nat) : bt r c = tnk 8 (r ^^^ c) := rfl
theorem tnk_start (r : Nat) : tnk 0 r = r := rfl
theorem tnk_snoc (k r : Nat) : tnk (k + 1) r = tn (tnk k r) := tnk_add k 1 r
theorem mr_take (r : Nat) (l : List Nat) (k : Nat) (h : k < l.length) : mr r (l.take (k + 1)) = bt (mr r (l.take k)) l[k] := by
  rw [List.take_succ_eq_append_getElem h, mr_snoc]
theorem ms_def (s : Nat) (l : List Nat) : inv (mr (inv s) l) = ms s l := rfl
theorem sm_def (l : List Nat) : inv (mr 4294967295 l) = sm l := rfl
theorem inv_def (s : Nat) : inv s = 4294967295 - s := rfl
theorem sm_lt (l : List Nat) : sm l < 4294967296 := ms_lt 0 l
theorem sm_ms (l : List Nat) : sm l = ms 0 l := rfl
theorem sm_check : sm [49, 50, 51, 52, 53, 54, 55, 56, 57] = 3421780262 := by decide +kernel
theorem sm_one : decide (1 = sm [97]) = false := by decide +kernel
attribute [irreducible] sm ms mr inv tnk bt tn
end Go.Proofs.Ytahfkcfbmklfpaa
