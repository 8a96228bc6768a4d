/- More plain mathematics of numbers in groups of seven binary digits: what was written is read as it was, whatever stands behind; cut short, or with a group of noughts ahead, it is none. Nothing of Go. -/
import Derived.Test.YtahfkcfbmklfpaaNumMath
namespace Go.Proofs.Ytahfkcfbmklfpaa

theorem nb_first' (n : Nat) (hm : n ≤ 1099511627776) (h : nsz n ≠ 1) : nb n (nsz n - 1) ≠ 128 := by
  have h0 := nsz_pos n
  have h1 := nsz_div n (nsz n - 1) hm (by omega)
  have h2 := nsz_end n hm
  obtain ⟨r, hr⟩ : ∃ r, nsz n = r + 1 := ⟨nsz n - 1, by omega⟩
  rw [hr, ← div_pow_step] at h2
  rw [hr, Nat.add_sub_cancel] at h1 ⊢
  rw [nb, if_neg (by omega)]
  omega
theorem nb_mod (n i : Nat) : nb n i % 128 = n / 128 ^ i % 128 := by
  unfold nb
  split
  · rename_i h; subst h; simp
  · omega
/-- Reading goes on as it was written. -/
theorem ng_nt (n : Nat) (hm : n ≤ 1099511627776) (l : List Nat) : ∀ (k i : Nat), (i = 0 → nb n k ≠ 128) → ng (n / 128 ^ (k + 1)) i (nt n k ++ l) = (n, i + k + 1, 0) := by
  intro k
  induction k with
  | zero =>
    intro i hi
    have e := nb_mod n 0
    rw [Nat.pow_zero, Nat.div_one] at e
    rw [nt, List.singleton_append, ng, if_neg (fun h => hi h.1 h.2), e, Nat.pow_one]
    rw [if_neg (by omega), if_pos (by rw [nb]; simp; omega)]
    simp
    omega
  | succ k ih =>
    intro i hi
    have e := nb_mod n (k + 1)
    have e2 : n / 128 ^ (k + 1 + 1) * 128 + nb n (k + 1) % 128 = n / 128 ^ (k + 1) := by
      rw [e, ← div_pow_step]
      omega
    have e3 : n / 128 ^ (k + 1) ≤ n := Nat.div_le_self _ _
    rw [nt, List.cons_append, ng, if_neg (fun h => hi h.1 h.2), e2, if_neg (by omega), if_neg (by rw [nb, if_neg (by omega)]; omega), ih (i + 1) (fun h => by omega)]
    congr 2
    omega
theorem ng_nput (n : Nat) (hm : n ≤ 1099511627776) (l : List Nat) : ng 0 0 (nput n ++ l) = (n, nsz n, 0) := by
  have h0 := nsz_pos n
  have h2 := nsz_end n hm
  obtain ⟨r, hr⟩ : ∃ r, nsz n = r + 1 := ⟨nsz n - 1, by omega⟩
  have := ng_nt n hm l r 0 (fun _ => by
    by_cases h1 : nsz n = 1
    · obtain rfl : r = 0 := by omega
      rw [nb, if_pos rfl]
      omega
    · have := nb_first' n hm h1
      rwa [hr, Nat.add_sub_cancel] at this)
  rw [hr] at h2
  rw [h2] at this
  rw [nput, hr, Nat.add_sub_cancel, this]
  simp
theorem ng_long (l : List Nat) (h : ∀ c ∈ l, 128 ≤ c) : ∀ acc i, ng acc i l = (0, 0, 2) := by
  induction l with
  | nil => intro acc i; rfl
  | cons c r ih =>
    intro acc i
    have hc := h c (List.mem_cons_self ..)
    rw [ng]
    split
    · rfl
    · split
      · rfl
      · rw [if_neg (by omega)]
        exact ih (fun x hx => h x (List.mem_cons_of_mem _ hx)) _ _
theorem nt_take (n : Nat) : ∀ k c, c ∈ (nt n k).take k → 128 ≤ c := by
  intro k
  induction k with
  | zero => intro c hc; simp at hc
  | succ k ih =>
    intro c hc
    rw [nt, List.take_succ_cons, List.mem_cons] at hc
    rcases hc with rfl | hc
    · rw [nb, if_neg (by omega)]; omega
    · exact ih c hc
theorem ng_short (n : Nat) : ng 0 0 ((nput n).take (nsz n - 1)) = (0, 0, 2) := ng_long _ (fun c hc => nt_take n _ c hc) 0 0
theorem ng_ahead (l : List Nat) : ng 0 0 (128 :: l) = (0, 0, 2) := by rw [ng, if_pos ⟨rfl, rfl⟩]
theorem nput_inj (n m : Nat) (hn : n ≤ 1099511627776) (hm : m ≤ 1099511627776) (h : nput n = nput m) : n = m := by
  have h1 := ng_nput n hn []
  have h2 := ng_nput m hm []
  rw [h, h2] at h1
  exact (congrArg Prod.fst h1).symm
theorem nput_bytes (n : Nat) : ∀ c ∈ nput n, c < 256 := nt_bytes n _
end Go.Proofs.Ytahfkcfbmklfpaa
