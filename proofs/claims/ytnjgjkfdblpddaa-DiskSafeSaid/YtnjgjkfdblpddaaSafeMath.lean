/- What a crash leaves of a sector that was written no more than once since the flush: its beginning is new, its end is old. No condition. -/
import Derived.Test.YtnjgjkfdblpddaaDiskOn
namespace Go.Proofs.Ytnjgjkfdblpddaa
open Go.RowKit Go.Deep

theorem keptN_sub {α : Type} (p : Int) (l : List α) : ∀ k, (keptN p l k).Sublist (l.take k)
  | 0 => by rw [keptN_zero]; exact List.nil_sublist _
  | k + 1 => by
    have ih := keptN_sub p l k
    by_cases hk : k < l.length
    · rw [List.take_succ_eq_append_getElem hk]
      cases hb : bitAt p k
      · rw [keptN_no hb]
        exact ih.trans (List.sublist_append_left _ _)
      · rw [keptN_yes hb hk]
        exact ih.append (List.Sublist.refl _)
    · rw [keptN_over p l k hk]
      rw [List.take_of_length_le (show l.length ≤ k + 1 by omega)]
      rwa [List.take_of_length_le (show l.length ≤ k by omega)] at ih
/-- How many writes are to the sector k. -/
def cnt (k : Nat) (C : List (Nat × List Nat)) : Nat := C.countP (fun p => p.1 == k)
theorem cnt_nil (k : Nat) : cnt k [] = 0 := rfl
theorem cnt_snoc (k : Nat) (C : List (Nat × List Nat)) (q : Nat) (l : List Nat) : cnt k (C ++ [(q, l)]) = cnt k C + if q = k then 1 else 0 := by
  rw [cnt, List.countP_append]
  by_cases h : q = k
  · rw [if_pos h]; simp [cnt, h]
  · rw [if_neg h]; simp [cnt, h]
theorem cnt_zero {k : Nat} {C : List (Nat × List Nat)} (h : cnt k C = 0) : ∀ p ∈ C, p.1 ≠ k := fun p hp e => by
  have := List.countP_eq_zero.1 h p hp
  simp [e] at this
theorem over_none {k : Nat} : ∀ {C : List (Nat × List Nat)} (b : Option (List Nat)), (∀ p ∈ C, p.1 ≠ k) → over k C b = b
  | [], b, _ => rfl
  | p :: C, b, h => by
    show over k C (if p.1 = k then some p.2 else b) = b
    rw [if_neg (h p (by simp))]
    exact over_none b fun q hq => h q (by simp [hq])
theorem over_mid {k : Nat} (C1 C2 : List (Nat × List Nat)) (p : Nat × List Nat) (b : Option (List Nat)) (hp : p.1 = k) (h2 : ∀ q ∈ C2, q.1 ≠ k) : over k (C1 ++ p :: C2) b = some p.2 := by
  rw [over, List.foldl_append, List.foldl_cons, if_pos hp]
  exact over_none _ h2
theorem over_snoc (k : Nat) (C : List (Nat × List Nat)) (q : Nat) (l : List Nat) (b : Option (List Nat)) : over k (C ++ [(q, l)]) b = if q = k then some l else over k C b := by
  rw [over, List.foldl_append, List.foldl_cons, List.foldl_nil]
  rfl
/-- The only write to a sector. -/
theorem cnt_one {k : Nat} {C : List (Nat × List Nat)} (h : cnt k C ≤ 1) {p : Nat × List Nat} (hp : p ∈ C) (hk : p.1 = k) : ∃ C1 C2, C = C1 ++ p :: C2 ∧ (∀ q ∈ C1, q.1 ≠ k) ∧ ∀ q ∈ C2, q.1 ≠ k := by
  obtain ⟨C1, C2, rfl⟩ := List.append_of_mem hp
  have e : cnt k (C1 ++ p :: C2) = cnt k C1 + (cnt k C2 + 1) := by
    simp [cnt, List.countP_append, hk]
  exact ⟨C1, C2, rfl, cnt_zero (by omega), cnt_zero (by omega)⟩
theorem laid_keep {T : Int} {t k : Nat} {L : List (Nat × List Nat)} {S : List (Option (List Nat))} (i : Nat) : ∀ d, (∀ (j : Nat) (hj : j < L.length), i ≤ j → j < i + d → L[j].1 ≠ k) → (laidN T t L S (i + d))[k]? = (laidN T t L S i)[k]?
  | 0, _ => rfl
  | d + 1, h => by
    have ih := laid_keep (T := T) (t := t) (S := S) i d fun j hj h1 h2 => h j hj h1 (by omega)
    rw [← Nat.add_assoc]
    by_cases hl : i + d < L.length
    · rw [laidN_next hl, List.getElem?_set_ne (h _ hl (by omega) (by omega)), ih]
    · rw [laidN_over hl, ih]
theorem safe_crash {S : List (Option (List Nat))} {C : List (Nat × List Nat)} {c k : Nat} (p : List Int) (hk : k < S.length) (hc : cnt k C ≤ 1) (h64 : ∀ q ∈ C, q.2.length = 64) (hs : (secB (S[k]?.getD none)).length = 64) :
    ∃ t, t ≤ 64 ∧ secB (((onD S C c).crash p).look k) = (secB ((onD S C c).look k)).take t ++ (secB (S[k]?.getD none)).drop t := by
  have ht : rnd (pk p 2) 65 < 65 := rnd_lt _ (by omega)
  obtain ⟨L, hL⟩ : ∃ L, keptN (pk p 0) C C.length = L := ⟨_, rfl⟩
  have hsub : L.Sublist C := by
    have := keptN_sub (pk p 0) C C.length
    rwa [List.take_length, hL] at this
  have e : ((onD S C c).crash p).look k = (laidN (tornAt p L.length) (rnd (pk p 2) 65) L S L.length)[k]?.getD none := by
    show over k [] ((laidN (tornAt p (keptN (pk p 0) C C.length).length) (rnd (pk p 2) 65) (keptN (pk p 0) C C.length) S (keptN (pk p 0) C C.length).length)[k]?.getD none) = _
    rw [hL]
    rfl
  have hlk : (onD S C c).look k = over k C (S[k]?.getD none) := rfl
  rw [e, hlk]
  have hcl : cnt k L ≤ 1 := Nat.le_trans (hsub.countP_le) hc
  generalize tornAt p L.length = T
  by_cases hex : ∃ q ∈ L, q.1 = k
  · obtain ⟨q, hq, hqk⟩ := hex
    obtain ⟨L1, L2, rfl, h1, h2⟩ := cnt_one hcl hq hqk
    obtain ⟨C1, C2, rfl, _, h4⟩ := cnt_one hc (hsub.subset hq) hqk
    rw [over_mid C1 C2 q _ hqk h4]
    have hql := h64 q (by simp)
    have a1 := laid_keep (T := T) (t := rnd (pk p 2) 65) (k := k) (L := L1 ++ q :: L2) (S := S) 0 L1.length fun j hj _ hjl => by
      rw [List.getElem_append_left (by omega)]
      exact h1 _ (List.getElem_mem _)
    rw [Nat.zero_add, laidN_zero] at a1
    have hlt : L1.length < (L1 ++ q :: L2).length := by simp
    have hgq : (L1 ++ q :: L2)[L1.length] = q := by simp
    have a2 := laid_keep (T := T) (t := rnd (pk p 2) 65) (k := k) (L := L1 ++ q :: L2) (S := S) (L1.length + 1) L2.length fun j hj hji _ => by
      rw [List.getElem_append_right (by omega)]
      obtain ⟨m, hm⟩ : ∃ m, j - L1.length = m + 1 := ⟨j - L1.length - 1, by omega⟩
      simp only [hm, List.getElem_cons_succ]
      exact h2 _ (List.getElem_mem _)
    have hlen : (L1 ++ q :: L2).length = L1.length + 1 + L2.length := by simp; omega
    rw [hlen, a2, laidN_next hlt, hgq, hqk, List.getElem?_set_self (by rw [laidN_length]; exact hk)]
    show ∃ t, t ≤ 64 ∧ laidB T (rnd (pk p 2) 65) (laidN T (rnd (pk p 2) 65) (L1 ++ q :: L2) S L1.length) L1.length q = q.2.take t ++ _
    unfold laidB
    split
    · refine ⟨rnd (pk p 2) 65, by omega, ?_⟩
      rw [hqk, a1]
    · refine ⟨64, Nat.le_refl _, ?_⟩
      rw [List.take_of_length_le (by omega), List.drop_eq_nil_iff.2 (by omega), List.append_nil]
  · have a1 := laid_keep (T := T) (t := rnd (pk p 2) 65) (k := k) (L := L) (S := S) 0 L.length fun j hj _ _ e => hex ⟨_, List.getElem_mem hj, e⟩
    rw [Nat.zero_add, laidN_zero] at a1
    rw [a1]
    exact ⟨0, by omega, by simp⟩
end Go.Proofs.Ytnjgjkfdblpddaa
