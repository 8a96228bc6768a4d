/- Texts as code points, in plain mathematics: which numbers may be ('May'), their bytes ('enc'), the bytes of many ('E'), the reading of the first one byte by byte ('st', 'fur'), and that each is the other's way back. No condition. -/
import Derived.Test.YtgenphpaidanhaaBy
namespace Go.Proofs.Ytgenphpaidanhaa

/-- The number may be a code point of a text. -/
def May (v : Nat) : Prop := 0 < v ∧ v ≤ 1114111 ∧ (v < 55296 ∨ 57343 < v)
instance (v : Nat) : Decidable (May v) := by unfold May; infer_instance
theorem May.pos {v : Nat} (h : May v) : 0 < v := h.1
theorem May.le {v : Nat} (h : May v) : v ≤ 1114111 := h.2.1

def enc (v : Nat) : List Nat :=
  if v < 128 then [v] else if v < 2048 then [192 + v / 64, 128 + v % 64] else if v < 65536 then [224 + v / 4096, 128 + v / 64 % 64, 128 + v % 64]
  else [240 + v / 262144, 128 + v / 4096 % 64, 128 + v / 64 % 64, 128 + v % 64]
def E (vs : List Nat) : List Nat := vs.flatMap enc
theorem E_nil : E [] = [] := rfl
theorem E_cons (v : Nat) (vs : List Nat) : E (v :: vs) = enc v ++ E vs := by simp [E]
theorem E_append (a b : List Nat) : E (a ++ b) = E a ++ E b := by simp [E]
theorem E_snoc (a : List Nat) (v : Nat) : E (a ++ [v]) = E a ++ enc v := by simp [E]
theorem enc_length (v : Nat) : (enc v).length = if v < 128 then 1 else if v < 2048 then 2 else if v < 65536 then 3 else 4 := by
  unfold enc; split <;> (try split) <;> (try split) <;> rfl
theorem enc_pos (v : Nat) : 0 < (enc v).length := by rw [enc_length]; split <;> (try split) <;> (try split) <;> omega
theorem enc_le (v : Nat) : (enc v).length ≤ 4 := by rw [enc_length]; split <;> (try split) <;> (try split) <;> omega
theorem enc_lt {v : Nat} (h : v ≤ 1114111) : ∀ x ∈ enc v, x < 256 := by
  intro x hx
  unfold enc at hx
  split at hx <;> (try split at hx) <;> (try split at hx) <;> simp at hx <;> omega

/-- left more bytes are wanted. -/
def fur : Nat → Nat → Nat → List Nat → Option (Nat × List Nat)
  | 0, p, least, t => if p < least ∨ ¬ May p then none else some (p, t)
  | _ + 1, _, _, [] => none
  | n + 1, p, least, d :: t => if d / 64 = 2 then fur n (p * 64 + d % 64) least t else none
/-- The first code point, and what is behind it. -/
def st : List Nat → Option (Nat × List Nat)
  | [] => none
  | c :: t => if c < 128 then fur 0 c 0 t else if c < 192 then none else if c < 224 then fur 1 (c % 32) 128 t else if c < 240 then fur 2 (c % 16) 2048 t else if c < 248 then fur 3 (c % 8) 65536 t else none

theorem fur_zero (p least : Nat) (t : List Nat) : fur 0 p least t = if p < least ∨ ¬ May p then none else some (p, t) := by cases t <;> rfl
theorem fur_nil (n p least : Nat) : fur (n + 1) p least [] = none := rfl
theorem fur_cons (n p least d : Nat) (t : List Nat) : fur (n + 1) p least (d :: t) = if d / 64 = 2 then fur n (p * 64 + d % 64) least t else none := rfl
theorem st_nil : st [] = none := rfl
theorem st_cons (c : Nat) (t : List Nat) : st (c :: t) = if c < 128 then fur 0 c 0 t else if c < 192 then none else if c < 224 then fur 1 (c % 32) 128 t else if c < 240 then fur 2 (c % 16) 2048 t else if c < 248 then fur 3 (c % 8) 65536 t else none := rfl

theorem fur_some : ∀ (n p least : Nat) (t : List Nat) (v : Nat) (r : List Nat), fur n p least t = some (v, r) → ∃ ds : List Nat, ds.length = n ∧ t = ds ++ r ∧ (∀ d ∈ ds, d / 64 = 2) ∧ v = ds.foldl (fun a d => a * 64 + d % 64) p ∧ least ≤ v ∧ May v := by
  intro n
  induction n with
  | zero =>
    intro p least t v r h
    rw [fur_zero] at h
    split at h
    · cases h
    · rename_i hn
      injection h with h
      injection h with h1 h2
      subst h1 h2
      refine ⟨[], rfl, rfl, by simp, rfl, by omega, ?_⟩
      by_cases hm : May p
      · exact hm
      · exact absurd (Or.inr hm) hn
  | succ n ih =>
    intro p least t v r h
    cases t with
    | nil => rw [fur_nil] at h; cases h
    | cons d t =>
      rw [fur_cons] at h
      split at h
      · rename_i hd
        obtain ⟨ds, h1, h2, h3, h4, h5, h6⟩ := ih _ _ _ _ _ h
        refine ⟨d :: ds, by simp [h1], by simp [h2], ?_, by simpa using h4, h5, h6⟩
        intro x hx
        rcases List.mem_cons.1 hx with rfl | hx
        · exact hd
        · exact h3 x hx
      · cases h

theorem st_some {l : List Nat} {v : Nat} {r : List Nat} (h : st l = some (v, r)) : May v ∧ l = enc v ++ r := by
  cases l with
  | nil => cases h
  | cons c t =>
    rw [st_cons] at h
    split at h
    · rw [fur_zero] at h
      split at h
      · cases h
      · rename_i hc hn
        injection h with h
        injection h with h1 h2
        subst h1 h2
        refine ⟨?_, by unfold enc; rw [if_pos hc]; rfl⟩
        by_cases hm : May c
        · exact hm
        · exact absurd (Or.inr hm) hn
    split at h
    · cases h
    split at h
    · obtain ⟨ds, h1, h2, h3, h4, h5, h6⟩ := fur_some _ _ _ _ _ _ h
      match ds, h1 with
      | [d], _ =>
        have hd := h3 d (by simp)
        simp only [List.foldl_cons, List.foldl_nil] at h4
        refine ⟨h6, ?_⟩
        rw [h2, enc, if_neg (by omega), if_pos (by omega)]
        simp only [List.cons_append, List.nil_append, List.cons.injEq, and_true]
        omega
    split at h
    · obtain ⟨ds, h1, h2, h3, h4, h5, h6⟩ := fur_some _ _ _ _ _ _ h
      match ds, h1 with
      | [d, e], _ =>
        have hd := h3 d (by simp)
        have he := h3 e (by simp)
        simp only [List.foldl_cons, List.foldl_nil] at h4
        refine ⟨h6, ?_⟩
        rw [h2, enc, if_neg (by omega), if_neg (by omega), if_pos (by omega)]
        simp only [List.cons_append, List.nil_append, List.cons.injEq, and_true]
        omega
    split at h
    · obtain ⟨ds, h1, h2, h3, h4, h5, h6⟩ := fur_some _ _ _ _ _ _ h
      match ds, h1 with
      | [d, e, f], _ =>
        have hd := h3 d (by simp)
        have he := h3 e (by simp)
        have hf := h3 f (by simp)
        simp only [List.foldl_cons, List.foldl_nil] at h4
        refine ⟨h6, ?_⟩
        rw [h2, enc, if_neg (by omega), if_neg (by omega), if_neg (by omega)]
        simp only [List.cons_append, List.nil_append, List.cons.injEq, and_true]
        omega
    · cases h

theorem fur_ok {v least : Nat} (h : May v) (hl : least ≤ v) : ¬ (v < least ∨ ¬ May v) := fun hh => hh.elim (fun h1 => by omega) (fun h1 => h1 h)
theorem st_enc {v : Nat} (h : May v) (r : List Nat) : st (enc v ++ r) = some (v, r) := by
  have h1 := h.1
  have h2 := h.2.1
  unfold enc
  split
  · simp only [List.cons_append, List.nil_append]
    rw [st_cons, if_pos (by omega), fur_zero, if_neg (fur_ok h (by omega))]
  split
  · simp only [List.cons_append, List.nil_append]
    rw [st_cons, if_neg (by omega), if_neg (by omega), if_pos (by omega), fur_cons, if_pos (by omega), show (192 + v / 64) % 32 * 64 + (128 + v % 64) % 64 = v by omega, fur_zero, if_neg (fur_ok h (by omega))]
  split
  · simp only [List.cons_append, List.nil_append]
    rw [st_cons, if_neg (by omega), if_neg (by omega), if_neg (by omega), if_pos (by omega), fur_cons, if_pos (by omega), fur_cons, if_pos (by omega),
      show ((224 + v / 4096) % 16 * 64 + (128 + v / 64 % 64) % 64) * 64 + (128 + v % 64) % 64 = v by omega, fur_zero, if_neg (fur_ok h (by omega))]
  · simp only [List.cons_append, List.nil_append]
    rw [st_cons, if_neg (by omega), if_neg (by omega), if_neg (by omega), if_neg (by omega), if_pos (by omega), fur_cons, if_pos (by omega), fur_cons, if_pos (by omega), fur_cons, if_pos (by omega),
      show (((240 + v / 262144) % 8 * 64 + (128 + v / 4096 % 64) % 64) * 64 + (128 + v / 64 % 64) % 64) * 64 + (128 + v % 64) % 64 = v by omega, fur_zero, if_neg (fur_ok h (by omega))]

/-- The bytes are a text's, with these code points. -/
def V (l vs : List Nat) : Prop := (∀ v ∈ vs, May v) ∧ E vs = l
theorem V.may {l vs : List Nat} (h : V l vs) : ∀ v ∈ vs, May v := h.1
theorem V.bytes {l vs : List Nat} (h : V l vs) : E vs = l := h.2
theorem E_lt {vs : List Nat} (h : ∀ v ∈ vs, May v) : ∀ x ∈ E vs, x < 256 := by
  intro x hx
  obtain ⟨v, hv, hx⟩ := List.mem_flatMap.1 hx
  exact enc_lt (h v hv).le x hx
theorem E_pos {v : Nat} {vs : List Nat} : 0 < (E (v :: vs)).length := by rw [E_cons, List.length_append]; have := enc_pos v; omega
theorem E_part : ∀ (vs ws r : List Nat), (∀ v ∈ vs, May v) → (∀ v ∈ ws, May v) → E ws = E vs ++ r → ∃ ws', ws = vs ++ ws' ∧ E ws' = r := by
  intro vs
  induction vs with
  | nil => intro ws r _ _ h; exact ⟨ws, rfl, by simpa [E_nil] using h⟩
  | cons v vs ih =>
    intro ws r hv hw h
    cases ws with
    | nil =>
      have := congrArg List.length h
      rw [E_nil, List.length_append] at this
      have h2 := E_pos (v := v) (vs := vs)
      simp at this
      omega
    | cons w ws =>
      rw [E_cons, E_cons, List.append_assoc] at h
      have h1 := congrArg st h
      rw [st_enc (hw w (by simp)), st_enc (hv v (by simp))] at h1
      injection h1 with h1
      injection h1 with h1 h2
      subst h1
      obtain ⟨ws', h3, h4⟩ := ih ws r (fun x hx => hv x (by simp [hx])) (fun x hx => hw x (by simp [hx])) h2
      exact ⟨ws', by rw [h3]; rfl, h4⟩
theorem V.uniq {l vs ws : List Nat} (h1 : V l vs) (h2 : V l ws) : vs = ws := by
  obtain ⟨ws', h3, h4⟩ := E_part vs ws [] h1.1 h2.1 (by rw [h1.2, h2.2]; simp)
  cases ws' with
  | nil => rw [h3]; simp
  | cons w ws' => have := E_pos (v := w) (vs := ws'); rw [h4] at this; simp at this
theorem V.nil : V [] [] := ⟨by simp, rfl⟩
theorem V.mk {vs : List Nat} (h : ∀ v ∈ vs, May v) : V (E vs) vs := ⟨h, rfl⟩
/-- What is behind some code points is a text, or the whole is none. -/
theorem none_behind {vs r : List Nat} (hv : ∀ v ∈ vs, May v) (hr : r ≠ []) (hs : st r = none) : ¬ ∃ ws, V (E vs ++ r) ws := by
  rintro ⟨ws, hw, he⟩
  obtain ⟨ws', h1, h2⟩ := E_part vs ws r hv hw he
  cases ws' with
  | nil => exact hr h2.symm
  | cons w ws' =>
    rw [E_cons] at h2
    rw [← h2, st_enc (hw w (by rw [h1]; simp))] at hs
    cases hs
theorem E_len_take (vs : List Nat) (a b : Nat) (h : a ≤ b) : (E (vs.take a)).length ≤ (E (vs.take b)).length := by
  have : vs.take b = vs.take a ++ (vs.take b).drop a := by
    conv => lhs; rw [← List.take_append_drop a (vs.take b), List.take_take, Nat.min_eq_left h]
  rw [this, E_append, List.length_append]
  omega
theorem E_piece (vs : List Nat) (a b : Nat) (h : a ≤ b) : ((E vs).take (E (vs.take b)).length).drop (E (vs.take a)).length = E ((vs.take b).drop a) := by
  have h1 : E vs = E (vs.take b) ++ E (vs.drop b) := by rw [← E_append, List.take_append_drop]
  have h2 : E (vs.take b) = E (vs.take a) ++ E ((vs.take b).drop a) := by
    rw [← E_append]
    conv => lhs; rw [← List.take_append_drop a (vs.take b), List.take_take, Nat.min_eq_left h]
  rw [h1, List.take_left' rfl, h2, List.drop_left' rfl]
theorem E_length_le (vs : List Nat) : vs.length ≤ (E vs).length := by
  induction vs with
  | nil => simp
  | cons v vs ih => rw [E_cons, List.length_append, List.length_cons]; have := enc_pos v; omega
attribute [irreducible] E enc st fur
end Go.Proofs.Ytgenphpaidanhaa
