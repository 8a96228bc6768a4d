/- Whether a text is empty, as the walk asks it. No condition. (Merged of 4 texts.) -/
import Derived.Test.YtnadhpajelkngaaKBase
import Derived.Test.YtnadhpajelkngaaKCells
/- Texts as code points, in plain mathematics: which numbers may be ('May'), their bytes ('enc'), the bytes of many ('E'), the reading of the first one byte by byte ('st', 'fur'), and that each is the other's way back. No condition. -/
namespace Go.Proofs.Ytnadhpajelkngaa

/-- The number may be a code point of a text. -/
def May (v : Nat) : Prop := 0 < v ∧ v ≤ 1114111 ∧ (v < 55296 ∨ 57343 < v)
instance (v : Nat) : Decidable (May v) := by unfold May; infer_instance
theorem May.pos {v : Nat} (h : May v) : 0 < v := h.1
theorem May.le {v : Nat} (h : May v) : v ≤ 1114111 := h.2.1

def enc (v : Nat) : List Nat :=
  if v < 128 then [v] else if v < 2048 then [192 + v / 64, 128 + v % 64] else if v < 65536 then [224 + v / 4096, 128 + v / 64 % 64, 128 + v % 64]
  else [240 + v / 262144, 128 + v / 4096 % 64, 128 + v / 64 % 64, 128 + v % 64]
def E (vs : List Nat) : List Nat := vs.flatMap enc
theorem E_nil : E [] = [] := rfl
theorem E_cons (v : Nat) (vs : List Nat) : E (v :: vs) = enc v ++ E vs := by simp [E]
theorem E_append (a b : List Nat) : E (a ++ b) = E a ++ E b := by simp [E]
theorem E_snoc (a : List Nat) (v : Nat) : E (a ++ [v]) = E a ++ enc v := by simp [E]
theorem enc_length (v : Nat) : (enc v).length = if v < 128 then 1 else if v < 2048 then 2 else if v < 65536 then 3 else 4 := by
  unfold enc; split <;> (try split) <;> (try split) <;> rfl
theorem enc_pos (v : Nat) : 0 < (enc v).length := by rw [enc_length]; split <;> (try split) <;> (try split) <;> omega
theorem enc_le (v : Nat) : (enc v).length ≤ 4 := by rw [enc_length]; split <;> (try split) <;> (try split) <;> omega
theorem enc_lt {v : Nat} (h : v ≤ 1114111) : ∀ x ∈ enc v, x < 256 := by
  intro x hx
  unfold enc at hx
  split at hx <;> (try split at hx) <;> (try split at hx) <;> simp at hx <;> omega

/-- left more bytes are wanted. -/
def fur : Nat → Nat → Nat → List Nat → Option (Nat × List Nat)
  | 0, p, least, t => if p < least ∨ ¬ May p then none else some (p, t)
  | _ + 1, _, _, [] => none
  | n + 1, p, least, d :: t => if d / 64 = 2 then fur n (p * 64 + d % 64) least t else none
/-- The first code point, and what is behind it. -/
def st : List Nat → Option (Nat × List Nat)
  | [] => none
  | c :: t => if c < 128 then fur 0 c 0 t else if c < 192 then none else if c < 224 then fur 1 (c % 32) 128 t else if c < 240 then fur 2 (c % 16) 2048 t else if c < 248 then fur 3 (c % 8) 65536 t else none

theorem fur_zero (p least : Nat) (t : List Nat) : fur 0 p least t = if p < least ∨ ¬ May p then none else some (p, t) := by cases t <;> rfl
theorem fur_nil (n p least : Nat) : fur (n + 1) p least [] = none := rfl
theorem fur_cons (n p least d : Nat) (t : List Nat) : fur (n + 1) p least (d :: t) = if d / 64 = 2 then fur n (p * 64 + d % 64) least t else none := rfl
theorem st_nil : st [] = none := rfl
theorem st_cons (c : Nat) (t : List Nat) : st (c :: t) = if c < 128 then fur 0 c 0 t else if c < 192 then none else if c < 224 then fur 1 (c % 32) 128 t else if c < 240 then fur 2 (c % 16) 2048 t else if c < 248 then fur 3 (c % 8) 65536 t else none := rfl

theorem fur_some : ∀ (n p least : Nat) (t : List Nat) (v : Nat) (r : List Nat), fur n p least t = some (v, r) → ∃ ds : List Nat, ds.length = n ∧ t = ds ++ r ∧ (∀ d ∈ ds, d / 64 = 2) ∧ v = ds.foldl (fun a d => a * 64 + d % 64) p ∧ least ≤ v ∧ May v := by
  intro n
  induction n with
  | zero =>
    intro p least t v r h
    rw [fur_zero] at h
    split at h
    · cases h
    · rename_i hn
      injection h with h
      injection h with h1 h2
      subst h1 h2
      refine ⟨[], rfl, rfl, by simp, rfl, by omega, ?_⟩
      by_cases hm : May p
      · exact hm
      · exact absurd (Or.inr hm) hn
  | succ n ih =>
    intro p least t v r h
    cases t with
    | nil => rw [fur_nil] at h; cases h
    | cons d t =>
      rw [fur_cons] at h
      split at h
      · rename_i hd
        obtain ⟨ds, h1, h2, h3, h4, h5, h6⟩ := ih _ _ _ _ _ h
        refine ⟨d :: ds, by simp [h1], by simp [h2], ?_, by simpa using h4, h5, h6⟩
        intro x hx
        rcases List.mem_cons.1 hx with rfl | hx
        · exact hd
        · exact h3 x hx
      · cases h

theorem st_some {l : List Nat} {v : Nat} {r : List Nat} (h : st l = some (v, r)) : May v ∧ l = enc v ++ r := by
  cases l with
  | nil => cases h
  | cons c t =>
    rw [st_cons] at h
    split at h
    · rw [fur_zero] at h
      split at h
      · cases h
      · rename_i hc hn
        injection h with h
        injection h with h1 h2
        subst h1 h2
        refine ⟨?_, by unfold enc; rw [if_pos hc]; rfl⟩
        by_cases hm : May c
        · exact hm
        · exact absurd (Or.inr hm) hn
    split at h
    · cases h
    split at h
    · obtain ⟨ds, h1, h2, h3, h4, h5, h6⟩ := fur_some _ _ _ _ _ _ h
      match ds, h1 with
      | [d], _ =>
        have hd := h3 d (by simp)
        simp only [List.foldl_cons, List.foldl_nil] at h4
        refine ⟨h6, ?_⟩
        rw [h2, enc, if_neg (by omega), if_pos (by omega)]
        simp only [List.cons_append, List.nil_append, List.cons.injEq, and_true]
        omega
    split at h
    · obtain ⟨ds, h1, h2, h3, h4, h5, h6⟩ := fur_some _ _ _ _ _ _ h
      match ds, h1 with
      | [d, e], _ =>
        have hd := h3 d (by simp)
        have he := h3 e (by simp)
        simp only [List.foldl_cons, List.foldl_nil] at h4
        refine ⟨h6, ?_⟩
        rw [h2, enc, if_neg (by omega), if_neg (by omega), if_pos (by omega)]
        simp only [List.cons_append, List.nil_append, List.cons.injEq, and_true]
        omega
    split at h
    · obtain ⟨ds, h1, h2, h3, h4, h5, h6⟩ := fur_some _ _ _ _ _ _ h
      match ds, h1 with
      | [d, e, f], _ =>
        have hd := h3 d (by simp)
        have he := h3 e (by simp)
        have hf := h3 f (by simp)
        simp only [List.foldl_cons, List.foldl_nil] at h4
        refine ⟨h6, ?_⟩
        rw [h2, enc, if_neg (by omega), if_neg (by omega), if_neg (by omega)]
        simp only [List.cons_append, List.nil_append, List.cons.injEq, and_true]
        omega
    · cases h

theorem fur_ok {v least : Nat} (h : May v) (hl : least ≤ v) : ¬ (v < least ∨ ¬ May v) := fun hh => hh.elim (fun h1 => by omega) (fun h1 => h1 h)
theorem st_enc {v : Nat} (h : May v) (r : List Nat) : st (enc v ++ r) = some (v, r) := by
  have h1 := h.1
  have h2 := h.2.1
  unfold enc
  split
  · simp only [List.cons_append, List.nil_append]
    rw [st_cons, if_pos (by omega), fur_zero, if_neg (fur_ok h (by omega))]
  split
  · simp only [List.cons_append, List.nil_append]
    rw [st_cons, if_neg (by omega), if_neg (by omega), if_pos (by omega), fur_cons, if_pos (by omega), show (192 + v / 64) % 32 * 64 + (128 + v % 64) % 64 = v by omega, fur_zero, if_neg (fur_ok h (by omega))]
  split
  · simp only [List.cons_append, List.nil_append]
    rw [st_cons, if_neg (by omega), if_neg (by omega), if_neg (by omega), if_pos (by omega), fur_cons, if_pos (by omega), fur_cons, if_pos (by omega),
      show ((224 + v / 4096) % 16 * 64 + (128 + v / 64 % 64) % 64) * 64 + (128 + v % 64) % 64 = v by omega, fur_zero, if_neg (fur_ok h (by omega))]
  · simp only [List.cons_append, List.nil_append]
    rw [st_cons, if_neg (by omega), if_neg (by omega), if_neg (by omega), if_neg (by omega), if_pos (by omega), fur_cons, if_pos (by omega), fur_cons, if_pos (by omega), fur_cons, if_pos (by omega),
      show (((240 + v / 262144) % 8 * 64 + (128 + v / 4096 % 64) % 64) * 64 + (128 + v / 64 % 64) % 64) * 64 + (128 + v % 64) % 64 = v by omega, fur_zero, if_neg (fur_ok h (by omega))]

/-- The bytes are a text's, with these code points. -/
def V (l vs : List Nat) : Prop := (∀ v ∈ vs, May v) ∧ E vs = l
theorem V.may {l vs : List Nat} (h : V l vs) : ∀ v ∈ vs, May v := h.1
theorem V.bytes {l vs : List Nat} (h : V l vs) : E vs = l := h.2
theorem E_lt {vs : List Nat} (h : ∀ v ∈ vs, May v) : ∀ x ∈ E vs, x < 256 := by
  intro x hx
  obtain ⟨v, hv, hx⟩ := List.mem_flatMap.1 hx
  exact enc_lt (h v hv).le x hx
theorem E_pos {v : Nat} {vs : List Nat} : 0 < (E (v :: vs)).length := by rw [E_cons, List.length_append]; have := enc_pos v; omega
theorem E_part : ∀ (vs ws r : List Nat), (∀ v ∈ vs, May v) → (∀ v ∈ ws, May v) → E ws = E vs ++ r → ∃ ws', ws = vs ++ ws' ∧ E ws' = r := by
  intro vs
  induction vs with
  | nil => intro ws r _ _ h; exact ⟨ws, rfl, by simpa [E_nil] using h⟩
  | cons v vs ih =>
    intro ws r hv hw h
    cases ws with
    | nil =>
      have := congrArg List.length h
      rw [E_nil, List.length_append] at this
      have h2 := E_pos (v := v) (vs := vs)
      simp at this
      omega
    | cons w ws =>
      rw [E_cons, E_cons, List.append_assoc] at h
      have h1 := congrArg st h
      rw [st_enc (hw w (by simp)), st_enc (hv v (by simp))] at h1
      injection h1 with h1
      injection h1 with h1 h2
      subst h1
      obtain ⟨ws', h3, h4⟩ := ih ws r (fun x hx => hv x (by simp [hx])) (fun x hx => hw x (by simp [hx])) h2
      exact ⟨ws', by rw [h3]; rfl, h4⟩
theorem V.uniq {l vs ws : List Nat} (h1 : V l vs) (h2 : V l ws) : vs = ws := by
  obtain ⟨ws', h3, h4⟩ := E_part vs ws [] h1.1 h2.1 (by rw [h1.2, h2.2]; simp)
  cases ws' with
  | nil => rw [h3]; simp
  | cons w ws' => have := E_pos (v := w) (vs := ws'); rw [h4] at this; simp at this
theorem V.nil : V [] [] := ⟨by simp, rfl⟩
theorem V.mk {vs : List Nat} (h : ∀ v ∈ vs, May v) : V (E vs) vs := ⟨h, rfl⟩
/-- What is behind some code points is a text, or the whole is none. -/
theorem none_behind {vs r : List Nat} (hv : ∀ v ∈ vs, May v) (hr : r ≠ []) (hs : st r = none) : ¬ ∃ ws, V (E vs ++ r) ws := by
  rintro ⟨ws, hw, he⟩
  obtain ⟨ws', h1, h2⟩ := E_part vs ws r hv hw he
  cases ws' with
  | nil => exact hr h2.symm
  | cons w ws' =>
    rw [E_cons] at h2
    rw [← h2, st_enc (hw w (by rw [h1]; simp))] at hs
    cases hs
theorem E_len_take (vs : List Nat) (a b : Nat) (h : a ≤ b) : (E (vs.take a)).length ≤ (E (vs.take b)).length := by
  have : vs.take b = vs.take a ++ (vs.take b).drop a := by
    conv => lhs; rw [← List.take_append_drop a (vs.take b), List.take_take, Nat.min_eq_left h]
  rw [this, E_append, List.length_append]
  omega
theorem E_piece (vs : List Nat) (a b : Nat) (h : a ≤ b) : ((E vs).take (E (vs.take b)).length).drop (E (vs.take a)).length = E ((vs.take b).drop a) := by
  have h1 : E vs = E (vs.take b) ++ E (vs.drop b) := by rw [← E_append, List.take_append_drop]
  have h2 : E (vs.take b) = E (vs.take a) ++ E ((vs.take b).drop a) := by
    rw [← E_append]
    conv => lhs; rw [← List.take_append_drop a (vs.take b), List.take_take, Nat.min_eq_left h]
  rw [h1, List.take_left' rfl, h2, List.drop_left' rfl]
theorem E_length_le (vs : List Nat) : vs.length ≤ (E vs).length := by
  induction vs with
  | nil => simp
  | cons v vs ih => rw [E_cons, List.length_append, List.length_cons]; have := enc_pos v; omega
attribute [irreducible] E enc st fur
end Go.Proofs.Ytnadhpajelkngaa

/- Whether bytes are a text, as a bool. No condition. -/
namespace Go.Proofs.Ytnadhpajelkngaa

noncomputable def validB (l : List Nat) : Bool := @decide (∃ vs, V l vs) (Classical.propDecidable _)
theorem validB_yes {l vs : List Nat} (h : V l vs) : validB l = true := by unfold validB; exact @decide_eq_true _ (Classical.propDecidable _) ⟨vs, h⟩
theorem validB_no {l : List Nat} (h : ¬ ∃ vs, V l vs) : validB l = false := by unfold validB; exact @decide_eq_false _ (Classical.propDecidable _) h
end Go.Proofs.Ytnadhpajelkngaa

/- Ints that are code points of a text, what the loop of a text's writer holds, and which bytes are no text. No condition. -/
namespace Go.Proofs.Ytnadhpajelkngaa
open Go.RowKit Go.Deep

theorem enc_def (v : Nat) : enc v = if v < 128 then [v] else if v < 2048 then [192 + v / 64, 128 + v % 64] else if v < 65536 then [224 + v / 4096, 128 + v / 64 % 64, 128 + v % 64] else [240 + v / 262144, 128 + v / 4096 % 64, 128 + v / 64 % 64, 128 + v % 64] := by unfold enc; rfl
def nz (vs : List Nat) : List Int := vs.map fun v : Nat => (v : Int)
theorem nz_length (vs : List Nat) : (nz vs).length = vs.length := by simp [nz]
theorem nz_snoc (vs : List Nat) (v : Nat) : nz (vs ++ [v]) = nz vs ++ [(v : Int)] := by simp [nz]
/-- The ints are code points, all that may be. -/
def VZ (l : List Int) (vs : List Nat) : Prop := (∀ v ∈ vs, May v) ∧ l = nz vs
theorem VZ.nil : VZ [] [] := ⟨by simp, rfl⟩
theorem VZ.snoc {l : List Int} {vs : List Nat} (h : VZ l vs) {v : Nat} (hv : May v) : VZ (l ++ [(v : Int)]) (vs ++ [v]) := by
  refine ⟨fun x hx => ?_, by rw [nz_snoc, h.2]⟩
  rcases List.mem_append.1 hx with hx | hx
  · exact h.1 x hx
  · rw [List.mem_singleton.1 hx]; exact hv
theorem VZ.not {l : List Int} {k : Nat} (hk : k < l.length) (h : ¬ (0 < l[k] ∧ l[k] ≤ 1114111 ∧ (l[k] < 55296 ∨ 57343 < l[k]))) : ¬ ∃ vs, VZ l vs := by
  rintro ⟨vs, hm, rfl⟩
  have hk' : k < vs.length := by simpa [nz] using hk
  have h1 := hm vs[k] (List.getElem_mem hk')
  have h2 : (nz vs)[k] = ((vs[k] : Nat) : Int) := by simp [nz]
  rw [h2] at h
  obtain ⟨a, b, c⟩ := h1
  omega
theorem VZ.uniq {l : List Int} {vs ws : List Nat} (h1 : VZ l vs) (h2 : VZ l ws) : vs = ws := by
  have h := h1.2.symm.trans h2.2
  have inj : ∀ a b : List Nat, nz a = nz b → a = b := by
    intro a
    induction a with
    | nil => intro b hb; cases b with
      | nil => rfl
      | cons y b => simp [nz] at hb
    | cons x a ih => intro b hb; cases b with
      | nil => simp [nz] at hb
      | cons y b =>
        simp only [nz, List.map_cons, List.cons.injEq] at hb
        rw [show x = y by omega, ih b hb.2]
  exact inj _ _ h

/-- What the loop of a text's writer holds. -/
def TextRel (w : World) (l : List Int) (k : Nat) (v : Value) (wr : World) : Prop :=
  ∃ vs, VZ (l.take k) vs ∧ wr.ownsRow w.heap.size 5 1 v (E vs).length (u8s (E vs)) ∧ Below w.heap.size w wr
theorem TextRel.start (w : World) (l : List Int) : TextRel w l 0 (.slice none 0 0) w := ⟨[], VZ.nil, by rw [E_nil]; simpa [u8s] using World.ownsRow_nil _ _ _ _, Below.refl _ _⟩
theorem VZ.length {l : List Int} {vs : List Nat} (h : VZ l vs) : vs.length = l.length := by rw [h.2, nz_length]
theorem E_length_le4 (vs : List Nat) : (E vs).length ≤ 4 * vs.length := by
  induction vs with
  | nil => rw [E_nil]; simp
  | cons v vs ih => rw [E_cons, List.length_append, List.length_cons]; have := enc_le v; omega

theorem no_text {l : List Nat} (h : l ≠ []) (hs : st l = none) : ¬ ∃ vs, V l vs := by
  have := none_behind (vs := []) (r := l) (by simp) h hs
  rwa [E_nil, List.nil_append] at this
theorem V.length_le {l vs : List Nat} (h : V l vs) : vs.length ≤ l.length := by rw [← h.bytes]; exact E_length_le vs
theorem V.lt {l vs : List Nat} (h : V l vs) : ∀ x ∈ l, x < 256 := by rw [← h.bytes]; exact E_lt h.may
end Go.Proofs.Ytnadhpajelkngaa

/- Whether a text is empty, as the walk asks it. No condition. -/
namespace Go.Proofs.Ytnadhpajelkngaa

theorem toList_nil : (bstr []).toList = [] := by
  rw [ByteArray.toList, ByteArray.toList.loop, if_neg (by rw [bstr_size]; simp)]
  rfl
theorem empty_yes : (bstr []).toList.isEmpty = true := by rw [toList_nil]; rfl
theorem empty_no {l : List Nat} (h : l ≠ []) : (bstr l).toList.isEmpty = false := by
  cases e : (bstr l).toList.isEmpty with
  | false => rfl
  | true =>
    exfalso
    have h1 : (bstr l).toList = [] := List.isEmpty_iff.1 e
    have h2 : (bstr []).toList = [] := toList_nil
    have h3 : ((bstr l).toList == (bstr []).toList) = false := bstr_neq fun g => h (by
      have := congrArg ByteArray.size g
      rw [bstr_size, bstr_size] at this
      exact List.length_eq_zero_iff.1 this)
    rw [h1, h2] at h3
    simp at h3
end Go.Proofs.Ytnadhpajelkngaa
