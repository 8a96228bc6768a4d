/- Plain mathematics of numbers in groups of seven binary digits: how many groups, their bytes, and how bytes are read. Nothing of Go; no condition beyond those that each lemma states. -/
import Derived.Below
namespace Go.Proofs.Ytahfkcfbmklfpaa

/-- How many groups of seven digits n has, at most six. -/
def nsz (n : Nat) : Nat := if n < 128 then 1 else if n < 16384 then 2 else if n < 2097152 then 3 else if n < 268435456 then 4 else if n < 34359738368 then 5 else 6
/-- The byte of n that stands i places ahead of the last one. -/
def nb (n i : Nat) : Nat := if i = 0 then n % 128 else n / 128 ^ i % 128 + 128
/-- The last k + 1 bytes. -/
def nt (n : Nat) : Nat → List Nat
  | 0 => [nb n 0]
  | k + 1 => nb n (k + 1) :: nt n k
/-- The bytes of n. -/
def nput (n : Nat) : List Nat := nt n (nsz n - 1)
/-- Reading: the number, how many bytes, the error's number; i bytes have been read, they came to acc. -/
def ng (acc i : Nat) : List Nat → Nat × Nat × Nat
  | [] => (0, 0, 2)
  | c :: r => if i = 0 ∧ c = 128 then (0, 0, 2) else if 1099511627776 < acc * 128 + c % 128 then (0, 0, 2) else if c < 128 then (acc * 128 + c % 128, i + 1, 0) else ng (acc * 128 + c % 128) (i + 1) r
/-- The document's reading. -/
def rg (acc i : Nat) : List Nat → Nat × Nat
  | [] => (0, 0)
  | c :: r => if 6 ≤ i then (0, 0) else if i = 0 ∧ c = 128 then (0, 0) else if c < 128 then (if 1099511627776 < acc * 128 + c % 128 then (0, 0) else (acc * 128 + c % 128, i + 1)) else rg (acc * 128 + c % 128) (i + 1) r

theorem nsz_pos (n : Nat) : 0 < nsz n := by
  unfold nsz
  repeat' split
  all_goals omega
theorem nsz_le (n : Nat) : nsz n ≤ 6 := by
  unfold nsz
  repeat' split
  all_goals omega
theorem nsz_mono (n m : Nat) (h : n ≤ m) : nsz n ≤ nsz m := by
  unfold nsz
  repeat' split
  all_goals omega
theorem nsz_one (n : Nat) (h : n < 128) : nsz n = 1 := by
  unfold nsz
  rw [if_pos h]
theorem nsz_step (n : Nat) (h : 128 ≤ n) (hm : n ≤ 1099511627776) : nsz n = nsz (n / 128) + 1 := by
  unfold nsz
  repeat' split
  all_goals omega
theorem nb_lt (n i : Nat) : nb n i < 256 := by
  unfold nb
  split <;> omega
theorem nt_length (n k : Nat) : (nt n k).length = k + 1 := by
  induction k with
  | zero => rfl
  | succ k ih => simp [nt, ih]
theorem nt_at (n k j : Nat) (h : j ≤ k) : (nt n k)[j]? = some (nb n (k - j)) := by
  induction k generalizing j with
  | zero =>
    obtain rfl : j = 0 := by omega
    rfl
  | succ k ih =>
    cases j with
    | zero => rfl
    | succ j =>
      rw [nt, List.getElem?_cons_succ, ih j (by omega)]
      congr 2
      omega
theorem nput_length (n : Nat) : (nput n).length = nsz n := by
  have := nsz_pos n
  rw [nput, nt_length]
  omega
theorem nt_bytes (n k : Nat) : ∀ c ∈ nt n k, c < 256 := by
  induction k with
  | zero => intro c hc; simp only [nt, List.mem_singleton] at hc; subst hc; exact nb_lt _ _
  | succ k ih =>
    intro c hc
    rw [nt, List.mem_cons] at hc
    rcases hc with rfl | hc
    · exact nb_lt _ _
    · exact ih c hc

/-- How far division goes: below 128 ^ the count of groups. -/
theorem nsz_div (n k : Nat) (hm : n ≤ 1099511627776) (hk : k < nsz n) : n / 128 ^ k = 0 → k = 0 := by
  intro h
  have hs := nsz_le n
  have hk6 : k < 6 := by omega
  unfold nsz at hk
  have cases6 : k = 0 ∨ k = 1 ∨ k = 2 ∨ k = 3 ∨ k = 4 ∨ k = 5 := by omega
  rcases cases6 with rfl | rfl | rfl | rfl | rfl | rfl <;> simp only [Nat.reducePow] at h <;> repeat' split at hk
  all_goals omega
theorem nsz_end (n : Nat) (hm : n ≤ 1099511627776) : n / 128 ^ nsz n = 0 := by
  unfold nsz
  repeat' split
  all_goals simp only [Nat.reducePow]; omega
theorem div_pow_step (n k : Nat) : n / 128 ^ k / 128 = n / 128 ^ (k + 1) := by
  rw [Nat.div_div_eq_div_mul, Nat.pow_succ]

/-- What was read ahead comes to too much, or the bytes are too many: nothing is read. -/
theorem rg_big (l : List Nat) : ∀ (acc i : Nat), 1099511627776 < acc → rg acc i l = (0, 0) := by
  induction l with
  | nil => intro acc i _; rfl
  | cons c r ih =>
    intro acc i h
    unfold rg
    split
    · rfl
    · split
      · rfl
      · split
        · rw [if_pos (by omega)]
        · exact ih _ _ (by omega)
theorem rg_six (l : List Nat) (acc i : Nat) (h : 6 ≤ i) : rg acc i l = (0, 0) := by
  cases l with
  | nil => rfl
  | cons c r => rw [rg, if_pos h]
/-- From the second byte on: at least 128 ^ (i - 1) has come together. -/
theorem ng_rg (l : List Nat) (hl : ∀ c ∈ l, c < 256) : ∀ (acc i : Nat), acc ≤ 1099511627776 → (i = 0 ∧ acc = 0 ∨ 1 ≤ i ∧ i ≤ 6 ∧ 128 ^ (i - 1) ≤ acc) →
    rg acc i l = ((ng acc i l).1, (ng acc i l).2.1) ∧ ((ng acc i l).2.2 = 0 ∧ 0 < (ng acc i l).2.1 ∨ ng acc i l = (0, 0, 2)) := by
  induction l with
  | nil => intro acc i _ _; exact ⟨rfl, .inr rfl⟩
  | cons c r ih =>
    intro acc i ha hi
    by_cases h6 : 6 ≤ i
    · have h6' : i = 6 := by omega
      subst h6'
      have hbig : 1099511627776 < acc * 128 + c % 128 := by
        rcases hi with hi | ⟨_, _, hi⟩
        · omega
        · simp only [Nat.reduceSub, Nat.reducePow] at hi; omega
      have e : ng acc 6 (c :: r) = (0, 0, 2) := by
        unfold ng
        rw [if_neg (by omega), if_pos hbig]
      rw [rg_six _ _ _ h6, e]
      exact ⟨rfl, .inr rfl⟩
    · unfold rg ng
      rw [if_neg h6]
      split
      · exact ⟨rfl, .inr rfl⟩
      · rename_i h0
        by_cases hb : 1099511627776 < acc * 128 + c % 128
        · rw [if_pos hb, if_pos hb]
          refine ⟨?_, .inr rfl⟩
          split
          · rfl
          · exact rg_big r _ _ hb
        · rw [if_neg hb, if_neg hb]
          split
          · exact ⟨rfl, .inl ⟨rfl, by simp⟩⟩
          · rename_i hc
            refine ih (fun x hx => hl x (List.mem_cons_of_mem _ hx)) _ _ (by omega) (.inr ⟨by omega, by omega, ?_⟩)
            rcases hi with ⟨rfl, rfl⟩ | ⟨h1, _, h2⟩
            · have : c ≠ 128 := fun e => h0 ⟨rfl, e⟩
              have := hl c (List.mem_cons_self ..)
              simp
              omega
            · obtain ⟨j, rfl⟩ : ∃ j, i = j + 1 := ⟨i - 1, by omega⟩
              simp only [Nat.add_sub_cancel] at h2 ⊢
              rw [Nat.pow_succ]
              omega
end Go.Proofs.Ytahfkcfbmklfpaa
