/- The contract of utf.Valid, over any bytes, texts or not. Condition: no more than 2^40 bytes. (Merged of 9 texts.) -/
import Derived.Test.YtkapfijokmajlaaQBase
import Derived.Scope
import Derived.Tactics
import Derived.Tactics2
import Derived.WalkMore
import Derived.Shelf.Abstract
/- Texts as code points, in plain mathematics: which numbers may be ('May'), their bytes ('enc'), the bytes of many ('E'), the reading of the first one byte by byte ('st', 'fur'), and that each is the other's way back. No condition. -/
namespace Go.Proofs.Ytkapfijokmajlaa

/-- The number may be a code point of a text. -/
def May (v : Nat) : Prop := 0 < v ∧ v ≤ 1114111 ∧ (v < 55296 ∨ 57343 < v)
instance (v : Nat) : Decidable (May v) := by unfold May; infer_instance
theorem May.pos {v : Nat} (h : May v) : 0 < v := h.1
theorem May.le {v : Nat} (h : May v) : v ≤ 1114111 := h.2.1

def enc (v : Nat) : List Nat :=
  if v < 128 then [v] else if v < 2048 then [192 + v / 64, 128 + v % 64] else if v < 65536 then [224 + v / 4096, 128 + v / 64 % 64, 128 + v % 64]
  else [240 + v / 262144, 128 + v / 4096 % 64, 128 + v / 64 % 64, 128 + v % 64]
def E (vs : List Nat) : List Nat := vs.flatMap enc
theorem E_nil : E [] = [] := rfl
theorem E_cons (v : Nat) (vs : List Nat) : E (v :: vs) = enc v ++ E vs := by simp [E]
theorem E_append (a b : List Nat) : E (a ++ b) = E a ++ E b := by simp [E]
theorem E_snoc (a : List Nat) (v : Nat) : E (a ++ [v]) = E a ++ enc v := by simp [E]
theorem enc_length (v : Nat) : (enc v).length = if v < 128 then 1 else if v < 2048 then 2 else if v < 65536 then 3 else 4 := by
  unfold enc; split <;> (try split) <;> (try split) <;> rfl
theorem enc_pos (v : Nat) : 0 < (enc v).length := by rw [enc_length]; split <;> (try split) <;> (try split) <;> omega
theorem enc_le (v : Nat) : (enc v).length ≤ 4 := by rw [enc_length]; split <;> (try split) <;> (try split) <;> omega
theorem enc_lt {v : Nat} (h : v ≤ 1114111) : ∀ x ∈ enc v, x < 256 := by
  intro x hx
  unfold enc at hx
  split at hx <;> (try split at hx) <;> (try split at hx) <;> simp at hx <;> omega

/-- left more bytes are wanted. -/
def fur : Nat → Nat → Nat → List Nat → Option (Nat × List Nat)
  | 0, p, least, t => if p < least ∨ ¬ May p then none else some (p, t)
  | _ + 1, _, _, [] => none
  | n + 1, p, least, d :: t => if d / 64 = 2 then fur n (p * 64 + d % 64) least t else none
/-- The first code point, and what is behind it. -/
def st : List Nat → Option (Nat × List Nat)
  | [] => none
  | c :: t => if c < 128 then fur 0 c 0 t else if c < 192 then none else if c < 224 then fur 1 (c % 32) 128 t else if c < 240 then fur 2 (c % 16) 2048 t else if c < 248 then fur 3 (c % 8) 65536 t else none

theorem fur_zero (p least : Nat) (t : List Nat) : fur 0 p least t = if p < least ∨ ¬ May p then none else some (p, t) := by cases t <;> rfl
theorem fur_nil (n p least : Nat) : fur (n + 1) p least [] = none := rfl
theorem fur_cons (n p least d : Nat) (t : List Nat) : fur (n + 1) p least (d :: t) = if d / 64 = 2 then fur n (p * 64 + d % 64) least t else none := rfl
theorem st_nil : st [] = none := rfl
theorem st_cons (c : Nat) (t : List Nat) : st (c :: t) = if c < 128 then fur 0 c 0 t else if c < 192 then none else if c < 224 then fur 1 (c % 32) 128 t else if c < 240 then fur 2 (c % 16) 2048 t else if c < 248 then fur 3 (c % 8) 65536 t else none := rfl

theorem fur_some : ∀ (n p least : Nat) (t : List Nat) (v : Nat) (r : List Nat), fur n p least t = some (v, r) → ∃ ds : List Nat, ds.length = n ∧ t = ds ++ r ∧ (∀ d ∈ ds, d / 64 = 2) ∧ v = ds.foldl (fun a d => a * 64 + d % 64) p ∧ least ≤ v ∧ May v := by
  intro n
  induction n with
  | zero =>
    intro p least t v r h
    rw [fur_zero] at h
    split at h
    · cases h
    · rename_i hn
      injection h with h
      injection h with h1 h2
      subst h1 h2
      refine ⟨[], rfl, rfl, by simp, rfl, by omega, ?_⟩
      by_cases hm : May p
      · exact hm
      · exact absurd (Or.inr hm) hn
  | succ n ih =>
    intro p least t v r h
    cases t with
    | nil => rw [fur_nil] at h; cases h
    | cons d t =>
      rw [fur_cons] at h
      split at h
      · rename_i hd
        obtain ⟨ds, h1, h2, h3, h4, h5, h6⟩ := ih _ _ _ _ _ h
        refine ⟨d :: ds, by simp [h1], by simp [h2], ?_, by simpa using h4, h5, h6⟩
        intro x hx
        rcases List.mem_cons.1 hx with rfl | hx
        · exact hd
        · exact h3 x hx
      · cases h

theorem st_some {l : List Nat} {v : Nat} {r : List Nat} (h : st l = some (v, r)) : May v ∧ l = enc v ++ r := by
  cases l with
  | nil => cases h
  | cons c t =>
    rw [st_cons] at h
    split at h
    · rw [fur_zero] at h
      split at h
      · cases h
      · rename_i hc hn
        injection h with h
        injection h with h1 h2
        subst h1 h2
        refine ⟨?_, by unfold enc; rw [if_pos hc]; rfl⟩
        by_cases hm : May c
        · exact hm
        · exact absurd (Or.inr hm) hn
    split at h
    · cases h
    split at h
    · obtain ⟨ds, h1, h2, h3, h4, h5, h6⟩ := fur_some _ _ _ _ _ _ h
      match ds, h1 with
      | [d], _ =>
        have hd := h3 d (by simp)
        simp only [List.foldl_cons, List.foldl_nil] at h4
        refine ⟨h6, ?_⟩
        rw [h2, enc, if_neg (by omega), if_pos (by omega)]
        simp only [List.cons_append, List.nil_append, List.cons.injEq, and_true]
        omega
    split at h
    · obtain ⟨ds, h1, h2, h3, h4, h5, h6⟩ := fur_some _ _ _ _ _ _ h
      match ds, h1 with
      | [d, e], _ =>
        have hd := h3 d (by simp)
        have he := h3 e (by simp)
        simp only [List.foldl_cons, List.foldl_nil] at h4
        refine ⟨h6, ?_⟩
        rw [h2, enc, if_neg (by omega), if_neg (by omega), if_pos (by omega)]
        simp only [List.cons_append, List.nil_append, List.cons.injEq, and_true]
        omega
    split at h
    · obtain ⟨ds, h1, h2, h3, h4, h5, h6⟩ := fur_some _ _ _ _ _ _ h
      match ds, h1 with
      | [d, e, f], _ =>
        have hd := h3 d (by simp)
        have he := h3 e (by simp)
        have hf := h3 f (by simp)
        simp only [List.foldl_cons, List.foldl_nil] at h4
        refine ⟨h6, ?_⟩
        rw [h2, enc, if_neg (by omega), if_neg (by omega), if_neg (by omega)]
        simp only [List.cons_append, List.nil_append, List.cons.injEq, and_true]
        omega
    · cases h

theorem fur_ok {v least : Nat} (h : May v) (hl : least ≤ v) : ¬ (v < least ∨ ¬ May v) := fun hh => hh.elim (fun h1 => by omega) (fun h1 => h1 h)
theorem st_enc {v : Nat} (h : May v) (r : List Nat) : st (enc v ++ r) = some (v, r) := by
  have h1 := h.1
  have h2 := h.2.1
  unfold enc
  split
  · simp only [List.cons_append, List.nil_append]
    rw [st_cons, if_pos (by omega), fur_zero, if_neg (fur_ok h (by omega))]
  split
  · simp only [List.cons_append, List.nil_append]
    rw [st_cons, if_neg (by omega), if_neg (by omega), if_pos (by omega), fur_cons, if_pos (by omega), show (192 + v / 64) % 32 * 64 + (128 + v % 64) % 64 = v by omega, fur_zero, if_neg (fur_ok h (by omega))]
  split
  · simp only [List.cons_append, List.nil_append]
    rw [st_cons, if_neg (by omega), if_neg (by omega), if_neg (by omega), if_pos (by omega), fur_cons, if_pos (by omega), fur_cons, if_pos (by omega),
      show ((224 + v / 4096) % 16 * 64 + (128 + v / 64 % 64) % 64) * 64 + (128 + v % 64) % 64 = v by omega, fur_zero, if_neg (fur_ok h (by omega))]
  · simp only [List.cons_append, List.nil_append]
    rw [st_cons, if_neg (by omega), if_neg (by omega), if_neg (by omega), if_neg (by omega), if_pos (by omega), fur_cons, if_pos (by omega), fur_cons, if_pos (by omega), fur_cons, if_pos (by omega),
      show (((240 + v / 262144) % 8 * 64 + (128 + v / 4096 % 64) % 64) * 64 + (128 + v / 64 % 64) % 64) * 64 + (128 + v % 64) % 64 = v by omega, fur_zero, if_neg (fur_ok h (by omega))]

/-- The bytes are a text's, with these code points. -/
def V (l vs : List Nat) : Prop := (∀ v ∈ vs, May v) ∧ E vs = l
theorem V.may {l vs : List Nat} (h : V l vs) : ∀ v ∈ vs, May v := h.1
theorem V.bytes {l vs : List Nat} (h : V l vs) : E vs = l := h.2
theorem E_lt {vs : List Nat} (h : ∀ v ∈ vs, May v) : ∀ x ∈ E vs, x < 256 := by
  intro x hx
  obtain ⟨v, hv, hx⟩ := List.mem_flatMap.1 hx
  exact enc_lt (h v hv).le x hx
theorem E_pos {v : Nat} {vs : List Nat} : 0 < (E (v :: vs)).length := by rw [E_cons, List.length_append]; have := enc_pos v; omega
theorem E_part : ∀ (vs ws r : List Nat), (∀ v ∈ vs, May v) → (∀ v ∈ ws, May v) → E ws = E vs ++ r → ∃ ws', ws = vs ++ ws' ∧ E ws' = r := by
  intro vs
  induction vs with
  | nil => intro ws r _ _ h; exact ⟨ws, rfl, by simpa [E_nil] using h⟩
  | cons v vs ih =>
    intro ws r hv hw h
    cases ws with
    | nil =>
      have := congrArg List.length h
      rw [E_nil, List.length_append] at this
      have h2 := E_pos (v := v) (vs := vs)
      simp at this
      omega
    | cons w ws =>
      rw [E_cons, E_cons, List.append_assoc] at h
      have h1 := congrArg st h
      rw [st_enc (hw w (by simp)), st_enc (hv v (by simp))] at h1
      injection h1 with h1
      injection h1 with h1 h2
      subst h1
      obtain ⟨ws', h3, h4⟩ := ih ws r (fun x hx => hv x (by simp [hx])) (fun x hx => hw x (by simp [hx])) h2
      exact ⟨ws', by rw [h3]; rfl, h4⟩
theorem V.uniq {l vs ws : List Nat} (h1 : V l vs) (h2 : V l ws) : vs = ws := by
  obtain ⟨ws', h3, h4⟩ := E_part vs ws [] h1.1 h2.1 (by rw [h1.2, h2.2]; simp)
  cases ws' with
  | nil => rw [h3]; simp
  | cons w ws' => have := E_pos (v := w) (vs := ws'); rw [h4] at this; simp at this
theorem V.nil : V [] [] := ⟨by simp, rfl⟩
theorem V.mk {vs : List Nat} (h : ∀ v ∈ vs, May v) : V (E vs) vs := ⟨h, rfl⟩
/-- What is behind some code points is a text, or the whole is none. -/
theorem none_behind {vs r : List Nat} (hv : ∀ v ∈ vs, May v) (hr : r ≠ []) (hs : st r = none) : ¬ ∃ ws, V (E vs ++ r) ws := by
  rintro ⟨ws, hw, he⟩
  obtain ⟨ws', h1, h2⟩ := E_part vs ws r hv hw he
  cases ws' with
  | nil => exact hr h2.symm
  | cons w ws' =>
    rw [E_cons] at h2
    rw [← h2, st_enc (hw w (by rw [h1]; simp))] at hs
    cases hs
theorem E_len_take (vs : List Nat) (a b : Nat) (h : a ≤ b) : (E (vs.take a)).length ≤ (E (vs.take b)).length := by
  have : vs.take b = vs.take a ++ (vs.take b).drop a := by
    conv => lhs; rw [← List.take_append_drop a (vs.take b), List.take_take, Nat.min_eq_left h]
  rw [this, E_append, List.length_append]
  omega
theorem E_piece (vs : List Nat) (a b : Nat) (h : a ≤ b) : ((E vs).take (E (vs.take b)).length).drop (E (vs.take a)).length = E ((vs.take b).drop a) := by
  have h1 : E vs = E (vs.take b) ++ E (vs.drop b) := by rw [← E_append, List.take_append_drop]
  have h2 : E (vs.take b) = E (vs.take a) ++ E ((vs.take b).drop a) := by
    rw [← E_append]
    conv => lhs; rw [← List.take_append_drop a (vs.take b), List.take_take, Nat.min_eq_left h]
  rw [h1, List.take_left' rfl, h2, List.drop_left' rfl]
theorem E_length_le (vs : List Nat) : vs.length ≤ (E vs).length := by
  induction vs with
  | nil => simp
  | cons v vs ih => rw [E_cons, List.length_append, List.length_cons]; have := enc_pos v; omega
attribute [irreducible] E enc st fur
end Go.Proofs.Ytkapfijokmajlaa

/- The contract of utf.may: of any int it tells whether a text may have it. No condition. -/
namespace Go.Proofs.Ytkapfijokmajlaa
open Go.RowKit

set_option maxRecDepth 100000 in
theorem utfMay_yes (n : Int) (h : 0 < n ∧ n ≤ 1114111 ∧ (n < 55296 ∨ 57343 < n)) (w : World) :
    Calls Try.prog 74 #[.int .i64 n] w fun e w' => e = .returned (.bool true) ∧ w = w' := by
  obtain ⟨h1, h2, h3⟩ := h
  have H3 := Lib.hid h3; clear h3
  by_cases hs : (55296 ≤ n)
  · have hs2 : ¬ n ≤ 57343 := by have := H3.out; omega
    go_enter Try.func74, Try.ntmps74
    go_wp2
    go_ret
    exact ⟨rfl, rfl⟩
  · go_enter Try.func74, Try.ntmps74
    go_wp2
    go_ret
    exact ⟨rfl, rfl⟩
set_option maxRecDepth 100000 in
theorem utfMay_no (n : Int) (h : n ≤ 0 ∨ 1114111 < n ∨ (55296 ≤ n ∧ n ≤ 57343)) (w : World) :
    Calls Try.prog 74 #[.int .i64 n] w fun e w' => e = .returned (.bool false) ∧ w = w' := by
  have H3 := Lib.hid h; clear h
  by_cases h1 : 0 < n
  · by_cases h2 : n ≤ 1114111
    · have hs : 55296 ≤ n := by have := H3.out; omega
      have hs2 : n ≤ 57343 := by have := H3.out; omega
      go_enter Try.func74, Try.ntmps74
      go_wp2
      go_ret
      exact ⟨rfl, rfl⟩
    · have hs : 55296 ≤ n := by omega
      have hs2 : ¬ n ≤ 57343 := by omega
      go_enter Try.func74, Try.ntmps74
      go_wp2
      go_ret
      exact ⟨rfl, rfl⟩
  · have hs : ¬ 55296 ≤ n := by omega
    go_enter Try.func74, Try.ntmps74
    go_wp2
    go_ret
    exact ⟨rfl, rfl⟩
theorem utfMay_may {v : Nat} (h : May v) (w : World) : Calls Try.prog 74 #[.int .i64 (v : Int)] w fun e w' => e = .returned (.bool true) ∧ w = w' :=
  utfMay_yes v (by obtain ⟨h1, h2, h3⟩ := h; omega) w
theorem utfMay_not {v : Nat} (h : ¬ May v) (w : World) : Calls Try.prog 74 #[.int .i64 (v : Int)] w fun e w' => e = .returned (.bool false) ∧ w = w' :=
  utfMay_no v (by unfold May at h; omega) w
end Go.Proofs.Ytkapfijokmajlaa

/- A scope of four labels among which the run jumps back and ahead: what holds at each label, and a measure that each pass from a label to the next lowers. No condition. -/
namespace Go.Proofs.Ytkapfijokmajlaa

/-- As Q; by a goto to a label: what holds at that label, at a measure below n. -/
def down (J : Nat → Act → World → Prop) (μ : Nat → Act → Nat) (n : Nat) (Q : Exit → Act → World → Prop) : Exit → Act → World → Prop
  | .goto l, a, w => J l a w ∧ μ l a < n
  | e, a, w => Q e a w
theorem down_ret {J : Nat → Act → World → Prop} {μ : Nat → Act → Nat} {n : Nat} {Q : Exit → Act → World → Prop} {a : Act} {w : World} : down J μ n Q .ret a w = Q .ret a w := rfl
theorem down_goto {J : Nat → Act → World → Prop} {μ : Nat → Act → Nat} {n : Nat} {Q : Exit → Act → World → Prop} {l : Nat} {a : Act} {w : World} : down J μ n Q (.goto l) a w = (J l a w ∧ μ l a < n) := rfl
theorem down_mono {P : Program} {c : Code} {J : Nat → Act → World → Prop} {μ : Nat → Act → Nat} {m n : Nat} {Q : Exit → Act → World → Prop} {a : Act} {w : World} (h : m ≤ n) (hc : c.wp P (down J μ m Q) a w) : c.wp P (down J μ n Q) a w :=
  Code.wp_mono (fun e a w q => by cases e <;> first | exact q | exact ⟨q.1, Nat.lt_of_lt_of_le q.2 h⟩) hc

theorem skip_seq {P : Program} {c : Code} {Q : Exit → Act → World → Prop} {a : Act} {w : World} (h : c.wp P Q a w) : (Code.skip.seq c).wp P Q a w := by
  go_wp2
  exact h

/-- The pass from a label on: whatever is at hand there. -/
def Pass (P : Program) (c : Code) (J : Nat → Act → World → Prop) (μ : Nat → Act → Nat) (Q : Exit → Act → World → Prop) (l : Nat) : Prop := ∀ a w, J l a w → c.wp P (down J μ (μ l a) Q) a w

theorem wp_scope_four {P : Program} {c r0 r1 r2 r3 : Code} {a : Act} {w : World} {Q : Exit → Act → World → Prop} (J : Nat → Act → World → Prop) (μ : Nat → Act → Nat)
    (hJ : ∀ l a w, J l a w → l < 4) (h0 : findLabel c 0 = some (Code.skip.seq r0)) (h1 : findLabel c 1 = some (Code.skip.seq r1)) (h2 : findLabel c 2 = some (Code.skip.seq r2)) (h3 : findLabel c 3 = some (Code.skip.seq r3))
    (p2 : Pass P r2 J μ Q 2) (p1 : Pass P r1 J μ Q 1) (p3 : Pass P r1 J μ Q 1 → Pass P r3 J μ Q 3) (p0 : Pass P r3 J μ Q 3 → Pass P r0 J μ Q 0)
    (first : Pass P r0 J μ Q 0 → ∃ n, c.wp P (down J μ n Q) a w) : (Code.scope c).wp P Q a w := by
  have q3 := p3 p1
  have q0 := p0 q3
  have pass : ∀ l a w, J l a w → ∃ r, findLabel c l = some r ∧ r.wp P (down J μ (μ l a) Q) a w := by
    intro l a w hl
    have := hJ l a w hl
    match l, this with
    | 0, _ => exact ⟨_, h0, skip_seq (q0 a w hl)⟩
    | 1, _ => exact ⟨_, h1, skip_seq (p1 a w hl)⟩
    | 2, _ => exact ⟨_, h2, skip_seq (p2 a w hl)⟩
    | 3, _ => exact ⟨_, h3, skip_seq (q3 a w hl)⟩
  obtain ⟨n, hn⟩ := first q0
  intro b k cs
  have key : ∀ n l a w, μ l a = n → J l a w → ∃ rest, findLabel c l = some rest ∧ ∃ e a' w', Q e a' w' ∧ Arrives P (lone (b.at a (.code rest :: .inScope c :: k)) cs w) b k cs e a' w' := by
    intro n
    induction n using Nat.strongRecOn with
    | _ n ih =>
      intro l a w hn hl
      obtain ⟨rest, hf, hp⟩ := pass l a w hl
      refine ⟨rest, hf, ?_⟩
      obtain ⟨e, a₁, w₁, hq, harr⟩ := hp b (.inScope c :: k) cs
      cases e with
      | normal => exact ⟨.normal, a₁, w₁, hq, Steps.trans harr (.one step_inScope)⟩
      | exit id => exact ⟨.exit id, a₁, w₁, hq, fun k' hk => harr k' (by simp [exitTo, hk])⟩
      | goto l' =>
        obtain ⟨hJ', hlt⟩ := hq
        obtain ⟨rest', hf', e₂, a₂, w₂, hq₂, harr₂⟩ := ih _ (by omega) l' a₁ w₁ rfl hJ'
        have hg : gotoIn l' (.inScope c :: k) = some (.code rest' :: .inScope c :: k) := by simp [gotoIn, hf']
        exact ⟨e₂, a₂, w₂, hq₂, .of_steps (harr _ hg) harr₂⟩
      | ret => exact ⟨_, a₁, w₁, hq, harr⟩
      | panic ch => exact ⟨_, a₁, w₁, hq, harr⟩
      | outgrown => exact ⟨_, a₁, w₁, hq, harr⟩
  obtain ⟨e, a₁, w₁, hq, harr⟩ := hn b (.inScope c :: k) cs
  cases e with
  | normal => exact ⟨.normal, a₁, w₁, hq, .head step_scope (Steps.trans harr (.one step_inScope))⟩
  | exit id => exact ⟨.exit id, a₁, w₁, hq, fun k' hk => .head step_scope (harr k' (by simp [exitTo, hk]))⟩
  | goto l' =>
    obtain ⟨hJ', _⟩ := hq
    obtain ⟨rest', hf', e₂, a₂, w₂, hq₂, harr₂⟩ := key _ l' a₁ w₁ rfl hJ'
    have hg : gotoIn l' (.inScope c :: k) = some (.code rest' :: .inScope c :: k) := by simp [gotoIn, hf']
    exact ⟨e₂, a₂, w₂, hq₂, .of_steps (.head step_scope (harr _ hg)) harr₂⟩
  | ret => exact ⟨_, a₁, w₁, hq, .of_steps (.one step_scope) harr⟩
  | panic ch => exact ⟨_, a₁, w₁, hq, .of_steps (.one step_scope) harr⟩
  | outgrown => exact ⟨_, a₁, w₁, hq, .of_steps (.one step_scope) harr⟩

attribute [irreducible] down
end Go.Proofs.Ytkapfijokmajlaa

/- The frame of utf.walk, what holds at each of its labels, and the measure. No condition. -/
namespace Go.Proofs.Ytkapfijokmajlaa
open Go.RowKit

/-- A frame of utf.walk. -/
def Fr (a : Act) (s sh : Value) (at_ : Nat) (p le lf : Value) : Prop :=
  a.defers = [] ∧ a.tmps.size = 82 ∧ a.tmps[0]? = some s ∧ a.tmps[1]? = some sh ∧ a.tmps[5]? = some (.int .i64 (at_ : Int)) ∧ a.tmps[6]? = some p ∧ a.tmps[7]? = some le ∧ a.tmps[8]? = some lf
theorem Fr.out {a : Act} {s sh : Value} {at_ : Nat} {p le lf : Value} (h : Fr a s sh at_ p le lf) : ∃ f : Nat → Value, a = { tmps := #[s, sh, f 2, f 3, f 4, .int .i64 (at_ : Int), p, le, lf, f 9, f 10, f 11, f 12, f 13, f 14, f 15, f 16, f 17, f 18, f 19, f 20, f 21, f 22, f 23, f 24, f 25, f 26, f 27, f 28, f 29, f 30, f 31, f 32, f 33, f 34, f 35, f 36, f 37, f 38, f 39, f 40, f 41, f 42, f 43, f 44, f 45, f 46, f 47, f 48, f 49, f 50, f 51, f 52, f 53, f 54, f 55, f 56, f 57, f 58, f 59, f 60, f 61, f 62, f 63, f 64, f 65, f 66, f 67, f 68, f 69, f 70, f 71, f 72, f 73, f 74, f 75, f 76, f 77, f 78, f 79, f 80, f 81], defers := [] } := by
  obtain ⟨t, d⟩ := a
  obtain ⟨rfl, hs, h0, h1, h5, h6, h7, h8⟩ := h
  simp only at hs h0 h1 h5 h6 h7 h8
  refine ⟨fun n => (t[n]?).getD undef, ?_⟩
  have e : t = ((List.range 82).map fun i => (t[i]?).getD undef).toArray := by
    apply Array.ext
    · simp [hs]
    · intro i h1 h2
      simp [h1]
  have e2 : ((List.range 82).map fun i => (t[i]?).getD undef).toArray = #[(t[0]?).getD undef, (t[1]?).getD undef, (t[2]?).getD undef, (t[3]?).getD undef, (t[4]?).getD undef, (t[5]?).getD undef, (t[6]?).getD undef, (t[7]?).getD undef, (t[8]?).getD undef, (t[9]?).getD undef, (t[10]?).getD undef, (t[11]?).getD undef, (t[12]?).getD undef, (t[13]?).getD undef, (t[14]?).getD undef, (t[15]?).getD undef, (t[16]?).getD undef, (t[17]?).getD undef, (t[18]?).getD undef, (t[19]?).getD undef, (t[20]?).getD undef, (t[21]?).getD undef, (t[22]?).getD undef, (t[23]?).getD undef, (t[24]?).getD undef, (t[25]?).getD undef, (t[26]?).getD undef, (t[27]?).getD undef, (t[28]?).getD undef, (t[29]?).getD undef, (t[30]?).getD undef, (t[31]?).getD undef, (t[32]?).getD undef, (t[33]?).getD undef, (t[34]?).getD undef, (t[35]?).getD undef, (t[36]?).getD undef, (t[37]?).getD undef, (t[38]?).getD undef, (t[39]?).getD undef, (t[40]?).getD undef, (t[41]?).getD undef, (t[42]?).getD undef, (t[43]?).getD undef, (t[44]?).getD undef, (t[45]?).getD undef, (t[46]?).getD undef, (t[47]?).getD undef, (t[48]?).getD undef, (t[49]?).getD undef, (t[50]?).getD undef, (t[51]?).getD undef, (t[52]?).getD undef, (t[53]?).getD undef, (t[54]?).getD undef, (t[55]?).getD undef, (t[56]?).getD undef, (t[57]?).getD undef, (t[58]?).getD undef, (t[59]?).getD undef, (t[60]?).getD undef, (t[61]?).getD undef, (t[62]?).getD undef, (t[63]?).getD undef, (t[64]?).getD undef, (t[65]?).getD undef, (t[66]?).getD undef, (t[67]?).getD undef, (t[68]?).getD undef, (t[69]?).getD undef, (t[70]?).getD undef, (t[71]?).getD undef, (t[72]?).getD undef, (t[73]?).getD undef, (t[74]?).getD undef, (t[75]?).getD undef, (t[76]?).getD undef, (t[77]?).getD undef, (t[78]?).getD undef, (t[79]?).getD undef, (t[80]?).getD undef, (t[81]?).getD undef] := rfl
  simp only [h0, h1, h5, h6, h7, h8, Option.getD_some] at e2
  rw [← e2, ← e]
attribute [irreducible] Fr
theorem Fr.mk {t : Array Value} {s sh : Value} {at_ : Nat} {p le lf : Value} (h : t.size = 82 ∧ t[0]? = some s ∧ t[1]? = some sh ∧ t[5]? = some (.int .i64 (at_ : Int)) ∧ t[6]? = some p ∧ t[7]? = some le ∧ t[8]? = some lf) : Fr { tmps := t, defers := [] } s sh at_ p le lf := by
  unfold Fr
  exact ⟨rfl, h⟩
theorem Fr.at5 {a : Act} {s sh : Value} {at_ : Nat} {p le lf : Value} (h : Fr a s sh at_ p le lf) : a.tmps.getD 5 undef = .int .i64 (at_ : Int) := by
  obtain ⟨f, rfl⟩ := h.out
  rfl

/-- What holds at each label: 0: first, 1: whole, 2: bad, 3: further. -/
def WJ (l : List Nat) (sh : Value) (Inv : List Nat → World → Prop) : Nat → Act → World → Prop
  | 0, a, w => ∃ vs r p le lf, Fr a (.string (bstr l)) sh (E vs).length p le lf ∧ (∀ v ∈ vs, May v) ∧ l = E vs ++ r ∧ Inv vs w
  | 1, a, w => ∃ vs r t at_ p le lf, Fr a (.string (bstr l)) sh at_ (.int .i64 ((p : Nat) : Int)) (.int .i64 ((le : Nat) : Int)) lf ∧ (∀ v ∈ vs, May v) ∧ l = E vs ++ r ∧ r ≠ [] ∧ at_ + t.length = l.length ∧ l.drop at_ = t ∧ st r = fur 0 p le t ∧ p ≤ 2097152 ∧ le ≤ 65536 ∧ Inv vs w
  | 2, a, w => ∃ at_ p le lf, Fr a (.string (bstr l)) sh at_ p le lf ∧ (¬ ∃ ws, V l ws) ∧ ∃ vs, Inv vs w
  | 3, a, w => ∃ vs r t at_ p le n, Fr a (.string (bstr l)) sh at_ (.int .i64 ((p : Nat) : Int)) (.int .i64 ((le : Nat) : Int)) (.int .i64 ((n : Nat) : Int)) ∧ (∀ v ∈ vs, May v) ∧ l = E vs ++ r ∧ r ≠ [] ∧ at_ + t.length = l.length ∧ l.drop at_ = t ∧ st r = fur n p le t ∧ (n = 1 ∧ p < 32768 ∨ n = 2 ∧ p < 512 ∨ n = 3 ∧ p < 8) ∧ le ≤ 65536 ∧ Inv vs w
  | _, _, _ => False
def Wμ (len : Nat) : Nat → Act → Nat
  | 0, a => 4 * (len - (RowKit.intOf (a.tmps.getD 5 undef)).toNat) + 1
  | 1, a => 4 * (len - (RowKit.intOf (a.tmps.getD 5 undef)).toNat) + 2
  | 3, a => 4 * (len - (RowKit.intOf (a.tmps.getD 5 undef)).toNat) + 3
  | _, _ => 0
theorem Wμ0 {len : Nat} {a : Act} {s sh : Value} {at_ : Nat} {p le lf : Value} (h : Fr a s sh at_ p le lf) : Wμ len 0 a = 4 * (len - at_) + 1 := by
  show 4 * (len - (RowKit.intOf (a.tmps.getD 5 undef)).toNat) + 1 = _
  rw [h.at5]; simp [RowKit.intOf]
theorem Wμ1 {len : Nat} {a : Act} {s sh : Value} {at_ : Nat} {p le lf : Value} (h : Fr a s sh at_ p le lf) : Wμ len 1 a = 4 * (len - at_) + 2 := by
  show 4 * (len - (RowKit.intOf (a.tmps.getD 5 undef)).toNat) + 2 = _
  rw [h.at5]; simp [RowKit.intOf]
theorem Wμ3 {len : Nat} {a : Act} {s sh : Value} {at_ : Nat} {p le lf : Value} (h : Fr a s sh at_ p le lf) : Wμ len 3 a = 4 * (len - at_) + 3 := by
  show 4 * (len - (RowKit.intOf (a.tmps.getD 5 undef)).toNat) + 3 = _
  rw [h.at5]; simp [RowKit.intOf]
theorem Wμ2 {len : Nat} {a : Act} : Wμ len 2 a = 0 := rfl

end Go.Proofs.Ytkapfijokmajlaa

/- The contract of utf.walk: through any text, whatever is called at each code point: it tells whether the bytes are a text, and has shown, in order, the code points that were read, each with the place behind it. Conditions: no more than 2^40 bytes; the function that is called keeps what the caller holds. -/
namespace Go.Proofs.Ytkapfijokmajlaa
open Go.RowKit

theorem then_goto {K : Act → World → Prop} {Q : Exit → Act → World → Prop} {l : Nat} {a : Act} {w : World} : Exit.then K Q (.goto l) a w = Q (.goto l) a w := rfl

theorem block_goto {id : Nat} {Q : Exit → Act → World → Prop} {l : Nat} {a : Act} {w : World} : Exit.inBlock id Q (.goto l) a w = Q (.goto l) a w := rfl

set_option maxHeartbeats 4000000 in
set_option maxRecDepth 100000 in
theorem utfWalk_any (k : Nat) (hk : ∀ (args : Array Value) (w : World), (callFunc k args).run Try.prog w = .ok (.enter k args) w) (cap : Array Value) (l : List Nat) (hl : l.length ≤ 1099511627776) (hb : ∀ x ∈ l, x < 256) (Inv : List Nat → World → Prop)
    (hshow : ∀ vs v w, Inv vs w → May v → (E (vs ++ [v])).length ≤ l.length → Calls Try.prog k (#[.int .i64 ((v : Nat) : Int), .int .i64 (((E (vs ++ [v])).length : Nat) : Int)] ++ cap) w fun e w' => e = .returned (.tuple #[]) ∧ Inv (vs ++ [v]) w')
    (w : World) (h0 : Inv [] w) :
    Calls Try.prog 70 #[.string (bstr l), .func (.func k) #[] cap] w fun e w' =>
      (∃ vs, V l vs ∧ e = .returned (.bool true) ∧ Inv vs w') ∨ ((¬ ∃ vs, V l vs) ∧ e = .returned (.bool false) ∧ ∃ vs, Inv vs w') := by
  have HS := Lib.hid hshow; clear hshow
  have HB := Lib.hid hb; clear hb
  have HL := Lib.hid hl; clear hl
  have H0 := Lib.hid h0; clear h0
  have HD := Lib.hid (bstr_size l)
  go_enter Try.func70, Try.ntmps70
  go_wp2
  refine wp_scope_four (WJ l (.func (.func k) #[] cap) Inv) (Wμ l.length) ?hJ rfl rfl rfl rfl ?p2 ?p1 ?p3 ?p0 ?first
  case hJ =>
    intro j a w h
    match j, h with
    | 0, _ => omega
    | 1, _ => omega
    | 2, _ => omega
    | 3, _ => omega
    | (n + 4), h => exact h.elim
  case p2 =>
    rintro a w ⟨at_, p, le, lf, hf, hn, vs, hv⟩
    rw [Wμ2]
    have HN := Lib.hid hn; clear hn
    obtain ⟨f, rfl⟩ := hf.out
    clear hf
    go_wp2
    rw [down_ret]
    go_ret
    exact .inr ⟨HN.out, rfl, vs, hv⟩
  case p1 =>
    rintro a w ⟨vs, r, t, at_, p, le, lf, hf, hm, hlr, hr, hat, hd, hst, hp, hle, hv⟩
    rw [Wμ1 hf]
    obtain ⟨m, HM⟩ : ∃ m, Hid (m = 4 * (l.length - at_) + 2) := ⟨_, rfl⟩
    rw [← HM.out]
    obtain ⟨f, rfl⟩ := hf.out
    clear hf
    have HV := Lib.hid hv; clear hv
    have HMM := Lib.hid hm; clear hm
    have HLR := Lib.hid hlr; clear hlr
    have HR := Lib.hid hr; clear hr
    have HT := Lib.hid hd; clear hd
    have HST := Lib.hid hst; clear hst
    rw [fur_zero] at HST
    by_cases h1 : p < le
    · have HN : Hid (¬ ∃ ws, V l ws) := by
        show ¬ ∃ ws, V l ws
        rw [HLR.out]
        exact none_behind HMM.out HR.out (by rw [HST.out, if_pos (.inl h1)])
      go_wp2
      go_step3
      rw [then_goto, down_goto, Wμ2]
      exact ⟨⟨at_, _, _, lf, Fr.mk ⟨rfl, rfl, rfl, rfl, rfl, rfl, rfl⟩, HN.out, vs, HV.out⟩, by have := HM.out; omega⟩
    · by_cases h2 : May p
      · have HS2 : Hid (st r = some (p, t)) := by show st r = some (p, t); rw [HST.out, if_neg (fun hh => hh.elim h1 (fun h => h h2))]
        have HAT : Hid (at_ = (E (vs ++ [p])).length) := by
          show at_ = (E (vs ++ [p])).length
          have h3 := congrArg List.length HLR.out
          rw [(st_some HS2.out).2, ← List.append_assoc, ← E_snoc, List.length_append] at h3
          omega
        go_wp2_with (go_at_call 74; refine (utfMay_may h2 _).mono ?_; rintro e w' ⟨rfl, rfl⟩)
        rw [HAT.out]
        refine (HS.out vs p _ HV.out h2 (by rw [← HAT.out]; omega)).mono ?_
        rintro e w' ⟨rfl, hv'⟩
        have HV' := Lib.hid hv'; clear hv'
        go_wp2
        go_step3
        rw [then_goto, down_goto, Wμ0 (s := .string (bstr l)) (sh := .func (.func k) #[] cap) (at_ := (E (vs ++ [p])).length) (Fr.mk ⟨rfl, rfl, rfl, rfl, rfl, rfl, rfl⟩)]
        refine ⟨⟨vs ++ [p], t, _, _, lf, Fr.mk ⟨rfl, rfl, rfl, rfl, rfl, rfl, rfl⟩, ?_, ?_, HV'.out⟩, ?_⟩
        · intro v hv
          rcases List.mem_append.1 hv with hv | hv
          · exact HMM.out v hv
          · rw [List.mem_singleton.1 hv]; exact h2
        · rw [E_snoc, List.append_assoc, ← (st_some HS2.out).2, ← HLR.out]
        · rw [← HAT.out, HM.out]; omega
      · have HN : Hid (¬ ∃ ws, V l ws) := by
          show ¬ ∃ ws, V l ws
          rw [HLR.out]
          exact none_behind HMM.out HR.out (by rw [HST.out, if_pos (.inr h2)])
        go_wp2_with (go_at_call 74; refine (utfMay_not h2 _).mono ?_; rintro e w' ⟨rfl, rfl⟩)
        go_step3
        rw [then_goto, down_goto, Wμ2]
        exact ⟨⟨at_, _, _, lf, Fr.mk ⟨rfl, rfl, rfl, rfl, rfl, rfl, rfl⟩, HN.out, vs, HV.out⟩, by have := HM.out; omega⟩
  case p3 =>
    rintro P1 a w ⟨vs, r, t, at_, p, le, n, hf, hm, hlr, hr, hat, hd, hst, hp, hle, hv⟩
    have P1' := Lib.hid P1; clear P1
    rw [Wμ3 hf]
    obtain ⟨m, HM⟩ : ∃ m, Hid (m = 4 * (l.length - at_) + 3) := ⟨_, rfl⟩
    rw [← HM.out]
    obtain ⟨f, rfl⟩ := hf.out
    clear hf
    have HV := Lib.hid hv; clear hv
    have HMM := Lib.hid hm; clear hm
    have HLR := Lib.hid hlr; clear hlr
    have HR := Lib.hid hr; clear hr
    have HST := Lib.hid hst; clear hst
    have HP := Lib.hid hp; clear hp
    have hsz := HD.out
    have hl := HL.out
    obtain ⟨n, rfl⟩ : ∃ k, n = k + 1 := ⟨n - 1, by have := HP.out; omega⟩
    cases t with
    | nil =>
      have hat' : at_ = l.length := by simpa using hat
      have HN : Hid (¬ ∃ ws, V l ws) := by
        show ¬ ∃ ws, V l ws
        rw [HLR.out]
        exact none_behind HMM.out HR.out (by rw [HST.out, fur_nil])
      clear hd hat
      subst hat'
      go_wp2
      go_step3
      rw [then_goto, down_goto, Wμ2]
      exact ⟨⟨l.length, _, _, _, Fr.mk ⟨rfl, rfl, rfl, rfl, rfl, rfl, rfl⟩, HN.out, vs, HV.out⟩, by have := HM.out; omega⟩
    | cons d t =>
      have HT := Lib.hid hd
      have hix := fun w => byte_at HB.out hd w
      have hd256 : d < 256 := HB.out d (List.mem_of_mem_drop (by rw [hd]; exact List.mem_cons_self ..))
      clear hd
      have hat' : at_ + t.length + 1 = l.length := by simpa [Nat.add_assoc] using hat
      clear hat
      rw [fur_cons] at HST
      by_cases h2 : d / 64 = 2
      · have HST2 : Hid (st r = fur n (p * 64 + d % 64) le t) := by show st r = _; rw [HST.out, if_pos h2]
        have hne : at_ < l.length := by omega
        have e1 : ((at_ : Int) == (l.length : Int)) = false := beq_eq_false_iff_ne.2 (by omega)
        have e2 : (((d : Int) / 64) != 2) = false := by simp; omega
        obtain ⟨q, HQ⟩ : ∃ q, Hid (q = p * 64 + d % 64) := ⟨_, rfl⟩
        have hp2 : p < 32768 := by have := HP.out; omega
        have eor := bor6 p d hp2
        rw [← HQ.out] at eor
        have hdr : Hid (l.drop (at_ + 1) = t) := by show l.drop (at_ + 1) = t; rw [← List.drop_drop, HT.out]; rfl
        have HST3 : Hid (st r = fur n q le t) := by show _ = _; rw [HST2.out, HQ.out]
        cases n with
        | zero =>
          have hq : Hid (q ≤ 2097152) := by show q ≤ 2097152; rw [HQ.out]; omega
          go_wp2
          go_step3
          rename_i K hK
          refine hK _ _ (down_mono ?_ (P1'.out _ _ ⟨vs, r, t, at_ + 1, q, le, _, Fr.mk ⟨rfl, rfl, rfl, rfl, rfl, rfl, rfl⟩, HMM.out, HLR.out, HR.out, by omega, hdr.out, HST3.out, hq.out, hle, HV.out⟩))
          rw [Wμ1 (s := .string (bstr l)) (sh := .func (.func k) #[] cap) (at_ := at_ + 1) (Fr.mk ⟨rfl, rfl, rfl, rfl, rfl, rfl, rfl⟩), HM.out]
          omega
        | succ n =>
          have hn2 : n < 2 := by have := HP.out; omega
          have hq : Hid (n + 1 = 1 ∧ q < 32768 ∨ n + 1 = 2 ∧ q < 512 ∨ n + 1 = 3 ∧ q < 8) := by show _ ∨ _; rw [HQ.out]; have := HP.out; omega
          go_wp2
          go_step3
          rw [then_goto, down_goto, Wμ3 (s := .string (bstr l)) (sh := .func (.func k) #[] cap) (at_ := at_ + 1) (Fr.mk ⟨rfl, rfl, rfl, rfl, rfl, rfl, rfl⟩)]
          exact ⟨⟨vs, r, t, at_ + 1, q, le, n + 1, Fr.mk ⟨rfl, rfl, rfl, rfl, rfl, rfl, rfl⟩, HMM.out, HLR.out, HR.out, by omega, hdr.out, HST3.out, hq.out, hle, HV.out⟩, by rw [HM.out]; omega⟩
      · have HN : Hid (¬ ∃ ws, V l ws) := by
          show ¬ ∃ ws, V l ws
          rw [HLR.out]
          exact none_behind HMM.out HR.out (by rw [HST.out, if_neg h2])
        have hne : at_ < l.length := by omega
        have e1 : ((at_ : Int) == (l.length : Int)) = false := beq_eq_false_iff_ne.2 (by omega)
        have e2 : (((d : Int) / 64) != 2) = true := by simp; omega
        go_wp2
        go_step3
        rw [then_goto, down_goto, Wμ2]
        exact ⟨⟨at_, _, _, _, Fr.mk ⟨rfl, rfl, rfl, rfl, rfl, rfl, rfl⟩, HN.out, vs, HV.out⟩, by have := HM.out; omega⟩
  case p0 =>
    rintro P3 a w ⟨vs, r, p, le, lf, hf, hm, hlr, hv⟩
    have P3' := Lib.hid P3; clear P3
    rw [Wμ0 hf]
    obtain ⟨m, HM⟩ : ∃ m, Hid (m = 4 * (l.length - (E vs).length) + 1) := ⟨_, rfl⟩
    rw [← HM.out]
    obtain ⟨f, rfl⟩ := hf.out
    clear hf
    have HV := Lib.hid hv; clear hv
    have HMM := Lib.hid hm; clear hm
    have HLR := Lib.hid hlr; clear hlr
    have hsz := HD.out
    have hl := HL.out
    have hlen : (E vs).length + r.length = l.length := by rw [← List.length_append, ← HLR.out]
    cases r with
    | nil =>
      have HVV : Hid (V l vs) := ⟨HMM.out, by rw [HLR.out]; simp⟩
      have e0 : (E vs).length = l.length := by simpa using hlen
      have e1 : (((E vs).length : Int) == (l.length : Int)) = true := by rw [e0]; exact beq_self_eq_true _
      go_wp2
      all_goals rw [down_ret]
      go_ret
      exact .inl ⟨vs, HVV.out, rfl, HV.out⟩
    | cons c t =>
      have hlen' : (E vs).length + t.length + 1 = l.length := by simpa [Nat.add_assoc] using hlen
      clear hlen
      have hd0 : l.drop (E vs).length = c :: t := by rw [HLR.out, List.drop_left' rfl]
      have HDR : Hid (l.drop ((E vs).length + 1) = t) := by show l.drop ((E vs).length + 1) = t; rw [← List.drop_drop, hd0]; rfl
      have hix := fun w => byte_at HB.out hd0 w
      have hc256 : c < 256 := HB.out c (by rw [HLR.out]; simp)
      clear hd0
      have e1 : (((E vs).length : Int) == (l.length : Int)) = false := beq_eq_false_iff_ne.2 (by omega)
      have hne : (E vs).length < l.length := by omega
      by_cases h1 : c < 128
      · have HS2 : Hid (st (c :: t) = fur 0 c 0 t) := by show _ = _; rw [st_cons, if_pos h1]
        go_wp2
        go_step3
        rw [block_goto, then_goto, down_goto, Wμ1 (s := .string (bstr l)) (sh := .func (.func k) #[] cap) (at_ := (E vs).length + 1) (Fr.mk ⟨rfl, rfl, rfl, rfl, rfl, rfl, rfl⟩)]
        exact ⟨⟨vs, c :: t, t, (E vs).length + 1, c, 0, lf, Fr.mk ⟨rfl, rfl, rfl, rfl, rfl, rfl, rfl⟩, HMM.out, HLR.out, by simp, by omega, HDR.out, HS2.out, by omega, by omega, HV.out⟩, by rw [HM.out]; omega⟩
      by_cases h2 : c < 192
      · have HN : Hid (¬ ∃ ws, V l ws) := by
          show ¬ ∃ ws, V l ws
          rw [HLR.out]
          exact none_behind HMM.out (by simp) (by rw [st_cons, if_neg h1, if_pos h2])
        go_wp2
        go_step3
        rw [block_goto, then_goto, down_goto, Wμ2]
        exact ⟨⟨(E vs).length + 1, _, _, _, Fr.mk ⟨rfl, rfl, rfl, rfl, rfl, rfl, rfl⟩, HN.out, vs, HV.out⟩, by have := HM.out; omega⟩
      by_cases h3 : c < 224
      · have HS2 : Hid (st (c :: t) = fur 1 (c % 32) 128 t) := by show _ = _; rw [st_cons, if_neg (by omega), if_neg (by omega), if_pos (by omega)]
        have em : Hid (((c : Int) % 32) = ((c % 32 : Nat) : Int)) := by show ((c : Int) % 32) = ((c % 32 : Nat) : Int); omega
        have hc1 : ¬ c < 128 := by omega
        have hc2 : ¬ c < 192 := by omega
        go_wp2
        go_step3
        rename_i K hK
        rw [em.out]
        refine hK _ _ (down_mono ?_ (P3'.out _ _ ⟨vs, c :: t, t, (E vs).length + 1, c % 32, 128, 1, Fr.mk ⟨rfl, rfl, rfl, rfl, rfl, rfl, rfl⟩, HMM.out, HLR.out, by simp, by omega, HDR.out, HS2.out, by omega, by omega, HV.out⟩))
        rw [Wμ3 (s := .string (bstr l)) (sh := .func (.func k) #[] cap) (at_ := (E vs).length + 1) (Fr.mk ⟨rfl, rfl, rfl, rfl, rfl, rfl, rfl⟩), HM.out]
        omega
      by_cases h4 : c < 240
      · have HS2 : Hid (st (c :: t) = fur 2 (c % 16) 2048 t) := by show _ = _; rw [st_cons, if_neg (by omega), if_neg (by omega), if_neg (by omega), if_pos (by omega)]
        have em : Hid (((c : Int) % 16) = ((c % 16 : Nat) : Int)) := by show ((c : Int) % 16) = ((c % 16 : Nat) : Int); omega
        have hc1 : ¬ c < 128 := by omega
        have hc2 : ¬ c < 192 := by omega
        have hc3 : ¬ c < 224 := by omega
        go_wp2
        go_step3
        rename_i K hK
        rw [em.out]
        refine hK _ _ (down_mono ?_ (P3'.out _ _ ⟨vs, c :: t, t, (E vs).length + 1, c % 16, 2048, 2, Fr.mk ⟨rfl, rfl, rfl, rfl, rfl, rfl, rfl⟩, HMM.out, HLR.out, by simp, by omega, HDR.out, HS2.out, by omega, by omega, HV.out⟩))
        rw [Wμ3 (s := .string (bstr l)) (sh := .func (.func k) #[] cap) (at_ := (E vs).length + 1) (Fr.mk ⟨rfl, rfl, rfl, rfl, rfl, rfl, rfl⟩), HM.out]
        omega
      by_cases h5 : c < 248
      · have HS2 : Hid (st (c :: t) = fur 3 (c % 8) 65536 t) := by show _ = _; rw [st_cons, if_neg (by omega), if_neg (by omega), if_neg (by omega), if_neg (by omega), if_pos (by omega)]
        have em : Hid (((c : Int) % 8) = ((c % 8 : Nat) : Int)) := by show ((c : Int) % 8) = ((c % 8 : Nat) : Int); omega
        have hc1 : ¬ c < 128 := by omega
        have hc2 : ¬ c < 192 := by omega
        have hc3 : ¬ c < 224 := by omega
        have hc4 : ¬ c < 240 := by omega
        go_wp2
        go_step3
        rename_i K hK
        rw [em.out]
        refine hK _ _ (down_mono ?_ (P3'.out _ _ ⟨vs, c :: t, t, (E vs).length + 1, c % 8, 65536, 3, Fr.mk ⟨rfl, rfl, rfl, rfl, rfl, rfl, rfl⟩, HMM.out, HLR.out, by simp, by omega, HDR.out, HS2.out, by omega, by omega, HV.out⟩))
        rw [Wμ3 (s := .string (bstr l)) (sh := .func (.func k) #[] cap) (at_ := (E vs).length + 1) (Fr.mk ⟨rfl, rfl, rfl, rfl, rfl, rfl, rfl⟩), HM.out]
        omega
      · have HN : Hid (¬ ∃ ws, V l ws) := by
          show ¬ ∃ ws, V l ws
          rw [HLR.out]
          exact none_behind HMM.out (by simp) (by rw [st_cons, if_neg (by omega), if_neg (by omega), if_neg (by omega), if_neg (by omega), if_neg (by omega)])
        have hc1 : ¬ c < 128 := by omega
        have hc2 : ¬ c < 192 := by omega
        have hc3 : ¬ c < 224 := by omega
        have hc4 : ¬ c < 240 := by omega
        go_wp2
        go_step3
        rw [block_goto, then_goto, down_goto, Wμ2]
        exact ⟨⟨(E vs).length + 1, _, _, _, Fr.mk ⟨rfl, rfl, rfl, rfl, rfl, rfl, rfl⟩, HN.out, vs, HV.out⟩, by have := HM.out; omega⟩
  case first =>
    intro P0
    have P0' := Lib.hid P0; clear P0
    refine ⟨4 * l.length + 1, ?_⟩
    go_wp2
    go_step3
    rename_i K hK
    refine hK _ _ (down_mono ?_ (P0'.out _ _ ⟨[], l, _, _, _, Fr.mk ⟨rfl, rfl, rfl, by rw [E_nil]; rfl, rfl, rfl, rfl⟩, by simp, by rw [E_nil]; rfl, H0.out⟩))
    rw [Wμ0 (s := .string (bstr l)) (sh := .func (.func k) #[] cap) (at_ := 0) (Fr.mk ⟨rfl, rfl, rfl, rfl, rfl, rfl, rfl⟩)]
    omega
end Go.Proofs.Ytkapfijokmajlaa

/- Slices of ints that come in or go from call to call, nil among them: what they read as, in this world and in later ones; how such an argument is opened; a piece of one. Condition: no slice is longer than memory. -/
namespace Go.Proofs.Ytkapfijokmajlaa
open Go.ChangeShapes Go.WideShapes Go.ChangeAt Go.RowKit Go.Deep

theorem int_info : (Try.prog.info? 3).map (fun i => (i.zero, i.size, i.bytes)) = some (some (.int .i64 0), 1, 8) := by kernel_rfl
/-- The slice value with address A reads as these ints, and lies below the heap's end. -/
def IntsAt (w : World) (A : Option Addr) (l : List Int) : Prop :=
  l = [] ∨ ∃ b off, A = some ⟨b, off, none⟩ ∧ b < w.heap.size ∧ ∀ (j : Nat) (c : Int), l[j]? = some c → w.cell? ⟨b, off + j, none⟩ = some (.int .i64 c)
theorem IntsAt.below {w w' : World} {A : Option Addr} {l : List Int} (h : IntsAt w A l) (hb : Below w.heap.size w w') : IntsAt w' A l := by
  rcases h with h | ⟨b, off, hA, hlt, hc⟩
  · exact .inl h
  · exact .inr ⟨b, off, hA, Nat.lt_of_lt_of_le hlt hb.size, fun j c hj => (hb.cell (p := ⟨b, off + j, none⟩) hlt).trans (hc j c hj)⟩
theorem IntsAt.drew {w : World} {A : Option Addr} {l : List Int} (h : IntsAt w A l) : IntsAt w.drew A l := h
theorem IntsAt.nil {w : World} {A : Option Addr} : IntsAt w A [] := .inl rfl
theorem IntsAt.lit {w : World} {cs : Array Value} {t : TypeId} {fr : Nat × Nat} {l : List Int} {g : Nat} (hc : ∀ (j : Nat) (x : Int), l[j]? = some x → cs[j]? = some (Value.int .i64 x)) (hg : g = w.heap.size) : IntsAt (w.alloc (.cells cs t fr)) (some ⟨g, 0, none⟩) l := by
  subst hg
  exact .inr ⟨w.heap.size, 0, rfl, by simp, fun j x hx => by rw [Nat.zero_add, cell_of_row _ _ _ cs t fr (heap_alloc_new w _), hc j x hx]⟩
theorem IntsAt.alloc {w : World} {A : Option Addr} {l : List Int} (h : IntsAt w A l) (o : Obj) : IntsAt (w.alloc o) A l := h.below ((Below.refl _ _).alloc (Nat.le_refl _) _)
theorem IntsAt.cell {w : World} {b off : Nat} {l : List Int} (h : IntsAt w (some ⟨b, off, none⟩) l) {j : Nat} (hj : j < l.length) : w.cell? ⟨b, off + j, none⟩ = some (.int .i64 l[j]) := by
  rcases h with rfl | ⟨b', off', e, _, hc⟩
  · simp at hj
  · injection e with e
    injection e with e1 e2 e3
    subst e1 e2
    exact hc j _ (List.getElem?_eq_getElem hj)
theorem IntsAt.form {w : World} {A : Option Addr} {l : List Int} (h : IntsAt w A l) (h0 : 0 < l.length) : ∃ b off, A = some ⟨b, off, none⟩ ∧ b < w.heap.size := by
  rcases h with rfl | ⟨b, off, e, hlt, _⟩
  · simp at h0
  · exact ⟨b, off, e, hlt⟩
theorem IntsAt.take {w : World} {A : Option Addr} {l : List Int} (h : IntsAt w A l) (k : Nat) : IntsAt w A (l.take k) := by
  rcases h with rfl | ⟨b, off, e, hlt, hc⟩
  · exact .inl (by simp)
  · refine .inr ⟨b, off, e, hlt, fun j c hj => hc j c ?_⟩
    rw [List.getElem?_take] at hj
    split at hj
    · exact hj
    · cases hj
theorem IntsAt.drop {w : World} {b off : Nat} {l : List Int} (h : IntsAt w (some ⟨b, off, none⟩) l) (k : Nat) : IntsAt w (some ⟨b, off + k, none⟩) (l.drop k) := by
  rcases h with rfl | ⟨b', off', e, hlt, hc⟩
  · exact .inl (by simp)
  · injection e with e
    injection e with e1 e2 e3
    subst e1 e2
    refine .inr ⟨_, _, rfl, hlt, fun j c hj => ?_⟩
    rw [List.getElem?_drop] at hj
    rw [Nat.add_assoc]
    exact hc _ c hj

def is64 (l : List Int) : List Value := l.map fun x => .int .i64 x
theorem is64_length (l : List Int) : (is64 l).length = l.length := by simp [is64]
theorem is64_append (a b : List Int) : is64 (a ++ b) = is64 a ++ is64 b := by simp [is64]
theorem IntsAt.of_own {w : World} {base : Nat} {A : Option Addr} {l : List Int} {c n : Nat} (h : w.ownsRow base 3 1 (.slice A n c) n (is64 l)) (hn : n = l.length) : IntsAt w A l := by
  subst hn
  by_cases h0 : l.length = 0
  · exact .inl (List.eq_nil_of_length_eq_zero h0)
  · obtain ⟨g, cap, hv, _, hlt⟩ := h.form (by omega)
    injection hv with h1 h2 h3
    subst h1
    subst h3
    refine .inr ⟨g, 0, rfl, hlt, fun j x hx => ?_⟩
    have hj : j < l.length := (List.getElem?_eq_some_iff.1 hx).1
    rw [Nat.zero_add, h.cellAt j (by omega), is64, List.getElem?_map, hx]
    rfl

set_option maxRecDepth 100000 in
/-- An argument of type []int: what it reads as. -/
theorem open_intslice {H : Type} {enc : TypeId × Value → H} {w : World} {base : Nat} {v : Value} {d : DataW H} {p : List MemPlace} (hv : Value.okWide Try.prog w .any base 31 v)
    (h : DataW.Trod enc Try.prog w 0 (fun _ => true) true 31 v d p) (hlt : ∀ x ∈ p, x.block < w.heap.size) :
    ∃ A l c, v = .slice A (List.length l) c ∧ IntsAt w A l ∧ (∀ x ∈ l, -9223372036854775808 ≤ x ∧ x ≤ 9223372036854775807) ∧ l.length ≤ maxLen := by
  obtain ⟨a0, len, cap, rfl⟩ := okWide_slice Try.underlying31 hv
  obtain ⟨fuel, hf⟩ := h
  rcases open_ints Try.underlying31 Try.underlying3 (by kernel_rfl) hf with ⟨hcs, hx⟩ | ⟨a, len', cap', zs, hcs, _, hl, hm, hz, hx, hcell, hwz⟩
  · simp [Value.cells] at hcs
    obtain ⟨rfl, rfl, rfl⟩ := hcs
    exact ⟨none, [], 0, rfl, .inl rfl, by simp, by simp [maxLen]⟩
  · simp [Value.cells] at hcs
    obtain ⟨rfl, rfl, rfl⟩ := hcs
    simp only [Prod.mk.injEq] at hx
    obtain ⟨rfl, rfl⟩ := hx
    simp only [if_true] at hz
    have hw : ∀ z ∈ zs, -9223372036854775808 ≤ z ∧ z ≤ 9223372036854775807 := fun z hzz => by simpa [Lit.wf, IntKind.min, IntKind.max, IntKind.signed, IntKind.bits] using hwz z hzz
    have hlen : (zs.take len).length = len := by simp; omega
    refine ⟨some a, zs.take len, cap, by rw [hlen], ?_, fun x hx => hw x (List.mem_of_mem_take hx), by rw [hlen]; omega⟩
    by_cases h0 : len = 0
    · subst h0
      exact .inl (by simp)
    · have hzp : 0 < zs.length := by omega
      obtain ⟨b, off, rfl, hc⟩ := ints_at hcell hzp
      refine .inr ⟨b, off, rfl, hlt (.cell b (off + 0)) (MemPlace.mem_row.2 ⟨0, hzp, rfl⟩), fun j c hj => ?_⟩
      rw [List.getElem?_take] at hj
      split at hj
      · have hjl : j < zs.length := (List.getElem?_eq_some_iff.1 hj).1
        rw [hc j hjl, List.getD_eq_getElem?_getD, hj, Option.getD_some]
      · cases hj

end Go.Proofs.Ytkapfijokmajlaa

/- Ints that are code points of a text, what the loop of a text's writer holds, and which bytes are no text. No condition. -/
namespace Go.Proofs.Ytkapfijokmajlaa
open Go.RowKit Go.Deep

theorem enc_def (v : Nat) : enc v = if v < 128 then [v] else if v < 2048 then [192 + v / 64, 128 + v % 64] else if v < 65536 then [224 + v / 4096, 128 + v / 64 % 64, 128 + v % 64] else [240 + v / 262144, 128 + v / 4096 % 64, 128 + v / 64 % 64, 128 + v % 64] := by unfold enc; rfl
def nz (vs : List Nat) : List Int := vs.map fun v : Nat => (v : Int)
theorem nz_length (vs : List Nat) : (nz vs).length = vs.length := by simp [nz]
theorem nz_snoc (vs : List Nat) (v : Nat) : nz (vs ++ [v]) = nz vs ++ [(v : Int)] := by simp [nz]
/-- The ints are code points, all that may be. -/
def VZ (l : List Int) (vs : List Nat) : Prop := (∀ v ∈ vs, May v) ∧ l = nz vs
theorem VZ.nil : VZ [] [] := ⟨by simp, rfl⟩
theorem VZ.snoc {l : List Int} {vs : List Nat} (h : VZ l vs) {v : Nat} (hv : May v) : VZ (l ++ [(v : Int)]) (vs ++ [v]) := by
  refine ⟨fun x hx => ?_, by rw [nz_snoc, h.2]⟩
  rcases List.mem_append.1 hx with hx | hx
  · exact h.1 x hx
  · rw [List.mem_singleton.1 hx]; exact hv
theorem VZ.not {l : List Int} {k : Nat} (hk : k < l.length) (h : ¬ (0 < l[k] ∧ l[k] ≤ 1114111 ∧ (l[k] < 55296 ∨ 57343 < l[k]))) : ¬ ∃ vs, VZ l vs := by
  rintro ⟨vs, hm, rfl⟩
  have hk' : k < vs.length := by simpa [nz] using hk
  have h1 := hm vs[k] (List.getElem_mem hk')
  have h2 : (nz vs)[k] = ((vs[k] : Nat) : Int) := by simp [nz]
  rw [h2] at h
  obtain ⟨a, b, c⟩ := h1
  omega
theorem VZ.uniq {l : List Int} {vs ws : List Nat} (h1 : VZ l vs) (h2 : VZ l ws) : vs = ws := by
  have h := h1.2.symm.trans h2.2
  have inj : ∀ a b : List Nat, nz a = nz b → a = b := by
    intro a
    induction a with
    | nil => intro b hb; cases b with
      | nil => rfl
      | cons y b => simp [nz] at hb
    | cons x a ih => intro b hb; cases b with
      | nil => simp [nz] at hb
      | cons y b =>
        simp only [nz, List.map_cons, List.cons.injEq] at hb
        rw [show x = y by omega, ih b hb.2]
  exact inj _ _ h

/-- What the loop of a text's writer holds. -/
def TextRel (w : World) (l : List Int) (k : Nat) (v : Value) (wr : World) : Prop :=
  ∃ vs, VZ (l.take k) vs ∧ wr.ownsRow w.heap.size 5 1 v (E vs).length (u8s (E vs)) ∧ Below w.heap.size w wr
theorem TextRel.start (w : World) (l : List Int) : TextRel w l 0 (.slice none 0 0) w := ⟨[], VZ.nil, by rw [E_nil]; simpa [u8s] using World.ownsRow_nil _ _ _ _, Below.refl _ _⟩
theorem VZ.length {l : List Int} {vs : List Nat} (h : VZ l vs) : vs.length = l.length := by rw [h.2, nz_length]
theorem E_length_le4 (vs : List Nat) : (E vs).length ≤ 4 * vs.length := by
  induction vs with
  | nil => rw [E_nil]; simp
  | cons v vs ih => rw [E_cons, List.length_append, List.length_cons]; have := enc_le v; omega

theorem no_text {l : List Nat} (h : l ≠ []) (hs : st l = none) : ¬ ∃ vs, V l vs := by
  have := none_behind (vs := []) (r := l) (by simp) h hs
  rwa [E_nil, List.nil_append] at this
theorem V.length_le {l vs : List Nat} (h : V l vs) : vs.length ≤ l.length := by rw [← h.bytes]; exact E_length_le vs
theorem V.lt {l vs : List Nat} (h : V l vs) : ∀ x ∈ l, x < 256 := by rw [← h.bytes]; exact E_lt h.may
end Go.Proofs.Ytkapfijokmajlaa

/- What walks through texts lean on: a function value that is called enters that function; a text has no more code points than bytes. No condition. -/
namespace Go.Proofs.Ytkapfijokmajlaa
open Go.RowKit Go.Deep

theorem enters_of_func {k : Nat} {fn : Func} {c : Code} (hf : Try.prog.funcs[k]? = some fn) (hname : (fn.name == "runtime.NumGoroutine") = false) (hb : fn.body = some c) : ∀ (args : Array Value) (w : World), (callFunc k args).run Try.prog w = .ok (.enter k args) w := Go.Proofs.enters_of hf hname hb
theorem hmf_any : ∀ (fn : Fn) (first cap : Array Value) (w : World), (Instr.makeFunc fn first cap).run Try.prog w = .ok (.func fn first cap) w := fun _ _ _ _ => rfl
end Go.Proofs.Ytkapfijokmajlaa

/- The contract of utf.Valid, over any bytes, texts or not. Condition: no more than 2^40 bytes. -/
namespace Go.Proofs.Ytkapfijokmajlaa
open Go.RowKit Go.Deep

theorem show_none (a b : Int) (w : World) : Calls Try.prog 71 (#[.int .i64 a, .int .i64 b] ++ #[]) w fun e w' => e = .returned (.tuple #[]) ∧ w = w' := by
  go_enter Try.func71, Try.ntmps71
  go_wp2
  go_end0
  exact ⟨rfl, rfl⟩
theorem utfValid_yes {l vs : List Nat} (h : V l vs) (hl : l.length ≤ 1099511627776) (w : World) :
    Calls Try.prog 57 #[.string (bstr l)] w fun e w' => e = .returned (.bool true) ∧ w = w' := by
  have HW := Lib.hid (utfWalk_any 71 (enters_of_func Try.func71 (by kernel_rfl) rfl) #[] l hl (by rw [← h.bytes]; exact E_lt h.may) (fun _ x => x = w)
    (fun vs v w1 hw _ _ => by subst hw; exact (show_none _ _ w1).mono (fun e w' h => ⟨h.1, h.2.symm⟩)) w rfl)
  go_enter Try.func57, Try.ntmps57
  go_wp2_with fail
  refine HW.out.mono ?_
  rintro e w' (⟨ws, hv, rfl, hw⟩ | ⟨hn, _, _⟩)
  · subst hw
    go_wp2
    go_ret
    exact ⟨rfl, rfl⟩
  · exact absurd ⟨vs, h⟩ hn
theorem utfValid_no {l : List Nat} (h : ¬ ∃ vs, V l vs) (hb : ∀ x ∈ l, x < 256) (hl : l.length ≤ 1099511627776) (w : World) :
    Calls Try.prog 57 #[.string (bstr l)] w fun e w' => e = .returned (.bool false) ∧ w = w' := by
  have HW := Lib.hid (utfWalk_any 71 (enters_of_func Try.func71 (by kernel_rfl) rfl) #[] l hl hb (fun _ x => x = w)
    (fun vs v w1 hw _ _ => by subst hw; exact (show_none _ _ w1).mono (fun e w' h => ⟨h.1, h.2.symm⟩)) w rfl)
  go_enter Try.func57, Try.ntmps57
  go_wp2_with fail
  refine HW.out.mono ?_
  rintro e w' (⟨ws, hv, _, hw⟩ | ⟨hn, rfl, _, hw⟩)
  · exact absurd ⟨ws, hv⟩ h
  · subst hw
    go_wp2
    go_ret
    exact ⟨rfl, rfl⟩
end Go.Proofs.Ytkapfijokmajlaa
