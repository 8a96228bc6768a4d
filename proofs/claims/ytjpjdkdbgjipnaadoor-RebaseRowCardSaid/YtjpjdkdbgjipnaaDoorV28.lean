/- The stable sort by blocks and symmetric merges, as plain mathematics over an array of things with their numbers. No condition. (Merged of 3 texts.) -/
import Derived.Scope
import Derived.Tactics
import Derived.Tactics2
import Derived.Sort.LotA
namespace Go.Proofs.YtjpjdkdbgjipnaaDoor
def down (J : Nat → Act → World → Prop) (μ : Nat → Act → Nat) (n : Nat) (Q : Exit → Act → World → Prop) : Exit → Act → World → Prop
 | .goto l, a, w => J l a w ∧ μ l a < n
 | e, a, w => Q e a w
theorem yy315 {J : Nat → Act → World → Prop} {μ : Nat → Act → Nat} {n : Nat} {Q : Exit → Act → World → Prop} {a : Act} {w : World} : down J μ n Q .ret a w = Q .ret a w := rfl
theorem yy36 {J : Nat → Act → World → Prop} {μ : Nat → Act → Nat} {n : Nat} {Q : Exit → Act → World → Prop} {l : Nat} {a : Act} {w : World} : down J μ n Q (.goto l) a w = (J l a w ∧ μ l a < n) := rfl
theorem yy111 {P : Program} {c : Code} {J : Nat → Act → World → Prop} {μ : Nat → Act → Nat} {m n : Nat} {Q : Exit → Act → World → Prop} {a : Act} {w : World} (h : m ≤ n) (hc : c.wp P (down J μ m Q) a w) : c.wp P (down J μ n Q) a w :=
 Code.wp_mono (fun e a w q => by cases e <;> first | exact q | exact ⟨q.1, Nat.lt_of_lt_of_le q.2 h⟩) hc
theorem yy73 {P : Program} {c : Code} {Q : Exit → Act → World → Prop} {a : Act} {w : World} (h : c.wp P Q a w) : (Code.skip.seq c).wp P Q a w := by
 go_wp2
 exact h
def Pass (P : Program) (c : Code) (J : Nat → Act → World → Prop) (μ : Nat → Act → Nat) (Q : Exit → Act → World → Prop) (l : Nat) : Prop := ∀ a w, J l a w → c.wp P (down J μ (μ l a) Q) a w
theorem yy271 {P : Program} {c r0 r1 r2 r3 : Code} {a : Act} {w : World} {Q : Exit → Act → World → Prop} (J : Nat → Act → World → Prop) (μ : Nat → Act → Nat)
  (hJ : ∀ l a w, J l a w → l < 4) (h0 : findLabel c 0 = some (Code.skip.seq r0)) (h1 : findLabel c 1 = some (Code.skip.seq r1)) (h2 : findLabel c 2 = some (Code.skip.seq r2)) (h3 : findLabel c 3 = some (Code.skip.seq r3))
  (p2 : Pass P r2 J μ Q 2) (p1 : Pass P r1 J μ Q 1) (p3 : Pass P r1 J μ Q 1 → Pass P r3 J μ Q 3) (p0 : Pass P r3 J μ Q 3 → Pass P r0 J μ Q 0)
  (first : Pass P r0 J μ Q 0 → ∃ n, c.wp P (down J μ n Q) a w) : (Code.scope c).wp P Q a w := by
 have q3 := p3 p1
 have q0 := p0 q3
 have pass : ∀ l a w, J l a w → ∃ r, findLabel c l = some r ∧ r.wp P (down J μ (μ l a) Q) a w := by
  intro l a w hl
  have := hJ l a w hl
  match l, this with
  | 0, _ => exact ⟨_, h0, yy73 (q0 a w hl)⟩
  | 1, _ => exact ⟨_, h1, yy73 (p1 a w hl)⟩
  | 2, _ => exact ⟨_, h2, yy73 (p2 a w hl)⟩
  | 3, _ => exact ⟨_, h3, yy73 (q3 a w hl)⟩
 obtain ⟨n, hn⟩ := first q0
 intro b k cs
 have key : ∀ n l a w, μ l a = n → J l a w → ∃ rest, findLabel c l = some rest ∧ ∃ e a' w', Q e a' w' ∧ Arrives P (lone (b.at a (.code rest :: .inScope c :: k)) cs w) b k cs e a' w' := by
  intro n
  induction n using Nat.strongRecOn with
  | _ n ih =>
   intro l a w hn hl
   obtain ⟨rest, hf, hp⟩ := pass l a w hl
   refine ⟨rest, hf, ?_⟩
   obtain ⟨e, a₁, w₁, hq, harr⟩ := hp b (.inScope c :: k) cs
   cases e with
   | normal => exact ⟨.normal, a₁, w₁, hq, Steps.trans harr (.one step_inScope)⟩
   | exit id => exact ⟨.exit id, a₁, w₁, hq, fun k' hk => harr k' (by simp [exitTo, hk])⟩
   | goto l' =>
    obtain ⟨hJ', hlt⟩ := hq
    obtain ⟨rest', hf', e₂, a₂, w₂, hq₂, harr₂⟩ := ih _ (by omega) l' a₁ w₁ rfl hJ'
    have hg : gotoIn l' (.inScope c :: k) = some (.code rest' :: .inScope c :: k) := by simp [gotoIn, hf']
    exact ⟨e₂, a₂, w₂, hq₂, .of_steps (harr _ hg) harr₂⟩
   | ret => exact ⟨_, a₁, w₁, hq, harr⟩
   | panic ch => exact ⟨_, a₁, w₁, hq, harr⟩
   | outgrown => exact ⟨_, a₁, w₁, hq, harr⟩
 obtain ⟨e, a₁, w₁, hq, harr⟩ := hn b (.inScope c :: k) cs
 cases e with
 | normal => exact ⟨.normal, a₁, w₁, hq, .head step_scope (Steps.trans harr (.one step_inScope))⟩
 | exit id => exact ⟨.exit id, a₁, w₁, hq, fun k' hk => .head step_scope (harr k' (by simp [exitTo, hk]))⟩
 | goto l' =>
  obtain ⟨hJ', _⟩ := hq
  obtain ⟨rest', hf', e₂, a₂, w₂, hq₂, harr₂⟩ := key _ l' a₁ w₁ rfl hJ'
  have hg : gotoIn l' (.inScope c :: k) = some (.code rest' :: .inScope c :: k) := by simp [gotoIn, hf']
  exact ⟨e₂, a₂, w₂, hq₂, .of_steps (.head step_scope (harr _ hg)) harr₂⟩
 | ret => exact ⟨_, a₁, w₁, hq, .of_steps (.one step_scope) harr⟩
 | panic ch => exact ⟨_, a₁, w₁, hq, .of_steps (.one step_scope) harr⟩
 | outgrown => exact ⟨_, a₁, w₁, hq, .of_steps (.one step_scope) harr⟩
attribute [irreducible] down
def downK (J : Nat → Nat → Act → World → Prop) (n : Nat) (Q : Exit → Act → World → Prop) : Exit → Act → World → Prop
 | .goto l, a, w => ∃ k, J l k a w ∧ k < n
 | e, a, w => Q e a w
theorem yy262 {J : Nat → Nat → Act → World → Prop} {n : Nat} {Q : Exit → Act → World → Prop} {a : Act} {w : World} : downK J n Q .ret a w = Q .ret a w := rfl
theorem yy1 {J : Nat → Nat → Act → World → Prop} {n : Nat} {Q : Exit → Act → World → Prop} {l : Nat} {a : Act} {w : World} : downK J n Q (.goto l) a w = (∃ k, J l k a w ∧ k < n) := rfl
theorem yy100 {P : Program} {c : Code} {J : Nat → Nat → Act → World → Prop} {m n : Nat} {Q : Exit → Act → World → Prop} {a : Act} {w : World} (h : m ≤ n) (hc : c.wp P (downK J m Q) a w) : c.wp P (downK J n Q) a w :=
 Code.wp_mono (fun e a w q => by
  cases e with
  | goto l =>
   obtain ⟨k, q1, q2⟩ := q
   exact ⟨k, q1, Nat.lt_of_lt_of_le q2 h⟩
  | _ => exact q) hc
def PassK (P : Program) (c : Code) (J : Nat → Nat → Act → World → Prop) (Q : Exit → Act → World → Prop) (l : Nat) : Prop := ∀ k a w, J l k a w → c.wp P (downK J k Q) a w
theorem yy503 {P : Program} {c r0 r1 r2 : Code} {a : Act} {w : World} {Q : Exit → Act → World → Prop} (J : Nat → Nat → Act → World → Prop)
  (hJ : ∀ l k a w, J l k a w → l < 3) (h0 : findLabel c 0 = some (Code.skip.seq r0)) (h1 : findLabel c 1 = some (Code.skip.seq r1)) (h2 : findLabel c 2 = some (Code.skip.seq r2))
  (p1 : PassK P r1 J Q 1) (p2 : PassK P r1 J Q 1 → PassK P r2 J Q 2) (p0 : PassK P r2 J Q 2 → PassK P r0 J Q 0)
  (first : PassK P r0 J Q 0 → ∃ n, c.wp P (downK J n Q) a w) : (Code.scope c).wp P Q a w := by
 have q2 := p2 p1
 have q0 := p0 q2
 have pass : ∀ l k a w, J l k a w → ∃ r, findLabel c l = some r ∧ r.wp P (downK J k Q) a w := by
  intro l k a w hl
  have := hJ l k a w hl
  match l, this with
  | 0, _ => exact ⟨_, h0, yy73 (q0 k a w hl)⟩
  | 1, _ => exact ⟨_, h1, yy73 (p1 k a w hl)⟩
  | 2, _ => exact ⟨_, h2, yy73 (q2 k a w hl)⟩
 obtain ⟨n, hn⟩ := first q0
 intro b k cs
 have key : ∀ n l a w, J l n a w → ∃ rest, findLabel c l = some rest ∧ ∃ e a' w', Q e a' w' ∧ Arrives P (lone (b.at a (.code rest :: .inScope c :: k)) cs w) b k cs e a' w' := by
  intro n
  induction n using Nat.strongRecOn with
  | _ n ih =>
   intro l a w hl
   obtain ⟨rest, hf, hp⟩ := pass l n a w hl
   refine ⟨rest, hf, ?_⟩
   obtain ⟨e, a₁, w₁, hq, harr⟩ := hp b (.inScope c :: k) cs
   cases e with
   | normal => exact ⟨.normal, a₁, w₁, hq, Steps.trans harr (.one step_inScope)⟩
   | exit id => exact ⟨.exit id, a₁, w₁, hq, fun k' hk => harr k' (by simp [exitTo, hk])⟩
   | goto l' =>
    obtain ⟨n', hJ', hlt⟩ := hq
    obtain ⟨rest', hf', e₂, a₂, w₂, hq₂, harr₂⟩ := ih n' hlt l' a₁ w₁ hJ'
    have hg : gotoIn l' (.inScope c :: k) = some (.code rest' :: .inScope c :: k) := by simp [gotoIn, hf']
    exact ⟨e₂, a₂, w₂, hq₂, .of_steps (harr _ hg) harr₂⟩
   | ret => exact ⟨_, a₁, w₁, hq, harr⟩
   | panic ch => exact ⟨_, a₁, w₁, hq, harr⟩
   | outgrown => exact ⟨_, a₁, w₁, hq, harr⟩
 obtain ⟨e, a₁, w₁, hq, harr⟩ := hn b (.inScope c :: k) cs
 cases e with
 | normal => exact ⟨.normal, a₁, w₁, hq, .head step_scope (Steps.trans harr (.one step_inScope))⟩
 | exit id => exact ⟨.exit id, a₁, w₁, hq, fun k' hk => .head step_scope (harr k' (by simp [exitTo, hk]))⟩
 | goto l' =>
  obtain ⟨n', hJ', _⟩ := hq
  obtain ⟨rest', hf', e₂, a₂, w₂, hq₂, harr₂⟩ := key _ l' a₁ w₁ hJ'
  have hg : gotoIn l' (.inScope c :: k) = some (.code rest' :: .inScope c :: k) := by simp [gotoIn, hf']
  exact ⟨e₂, a₂, w₂, hq₂, .of_steps (.head step_scope (harr _ hg)) harr₂⟩
 | ret => exact ⟨_, a₁, w₁, hq, .of_steps (.one step_scope) harr⟩
 | panic ch => exact ⟨_, a₁, w₁, hq, .of_steps (.one step_scope) harr⟩
 | outgrown => exact ⟨_, a₁, w₁, hq, .of_steps (.one step_scope) harr⟩
attribute [irreducible] downK
end Go.Proofs.YtjpjdkdbgjipnaaDoor
namespace Go.Proofs.YtjpjdkdbgjipnaaDoor
open Go.Sort
section
variable {α : Type} [Inhabited α]
def yy120 (d : Array α) (a b i : Nat) (e : Array α) : Prop :=
 e.size = d.size ∧ ∀ t, e[t]! = if a ≤ t ∧ t < a + i then d[t - a + b]! else if b ≤ t ∧ t < b + i then d[t - b + a]! else d[t]!
theorem yy347 (d : Array α) (a b : Nat) : yy120 d a b 0 d := ⟨rfl, fun t => by rw [if_neg (by omega), if_neg (by omega)]⟩
theorem yy120.step {d e : Array α} {a b i : Nat} (h : yy120 d a b i e) (hab : a + i < b) (hb : b + i < d.size) : yy120 d a b (i + 1) (swp e (a + i) (b + i)) := by
 refine ⟨by rw [swp_size]; exact h.1, fun t => ?_⟩
 rw [swp_get _ (by rw [h.1]; omega) (by rw [h.1]; omega), h.2 (a + i), h.2 (b + i), h.2 t]
 rw [if_neg (show ¬ (a ≤ a + i ∧ a + i < a + i) by omega), if_neg (show ¬ (b ≤ a + i ∧ a + i < b + i) by omega), if_neg (show ¬ (a ≤ b + i ∧ b + i < a + i) by omega), if_neg (show ¬ (b ≤ b + i ∧ b + i < b + i) by omega)]
 by_cases h1 : t = b + i
 ·subst h1
  rw [if_pos rfl, if_neg (by omega), if_pos (by omega)]
  exact congrArg (fun z => d[z]!) (by omega)
 ·rw [if_neg h1]
  by_cases h2 : t = a + i
  ·subst h2
   rw [if_pos rfl, if_pos (by omega)]
   exact congrArg (fun z => d[z]!) (by omega)
  ·rw [if_neg h2]
   by_cases h3 : a ≤ t ∧ t < a + i
   ·rw [if_pos h3, if_pos (by omega)]
   ·rw [if_neg h3, if_neg (show ¬ (a ≤ t ∧ t < a + (i + 1)) by omega)]
    by_cases h4 : b ≤ t ∧ t < b + i
    ·rw [if_pos h4, if_pos (by omega)]
    ·rw [if_neg h4, if_neg (by omega)]
def rotF (d : Array α) (a m b t : Nat) : α := if a ≤ t ∧ t < a + (b - m) then d[t + (m - a)]! else if a + (b - m) ≤ t ∧ t < b then d[t - (b - m)]! else d[t]!
def RotRes (d : Array α) (a m b : Nat) (e : Array α) : Prop := e.size = d.size ∧ ∀ t, e[t]! = rotF d a m b t
theorem yy518 (d : Array α) (a b : Nat) : RotRes d a b b d := ⟨rfl, fun t => by
 unfold rotF
 rw [if_neg (by omega)]
 split
 ·exact congrArg (fun z => d[z]!) (by omega)
 ·rfl⟩
theorem yy519 (d : Array α) (a b : Nat) : RotRes d a a b d := ⟨rfl, fun t => by
 unfold rotF
 split
 ·exact congrArg (fun z => d[z]!) (by omega)
 ·rw [if_neg (by omega)]⟩
theorem yy693 {d e : Array α} {m i : Nat} (hi : i ≤ m) (h : yy120 d (m - i) m i e) (t : Nat) : e[t]! = rotF d (m - i) m (m + i) t := by
 rw [h.2]
 unfold rotF
 by_cases h1 : m - i ≤ t ∧ t < m - i + i
 ·rw [if_pos h1, if_pos (show m - i ≤ t ∧ t < m - i + (m + i - m) by omega)]
  exact congrArg (fun z => d[z]!) (by omega)
 ·rw [if_neg h1, if_neg (show ¬ (m - i ≤ t ∧ t < m - i + (m + i - m)) by omega)]
  by_cases h2 : m ≤ t ∧ t < m + i
  ·rw [if_pos h2, if_pos (by omega)]
   exact congrArg (fun z => d[z]!) (by omega)
  ·rw [if_neg h2, if_neg (by omega)]
theorem yy694 {d e : Array α} {m i j : Nat} (hi : i ≤ m) (hj : j < i) (h : yy120 d (m - i) m j e) (t : Nat) : rotF e (m - (i - j)) m (m + j) t = rotF d (m - i) m (m + j) t := by
 unfold rotF
 rw [h.2, h.2, h.2]
 by_cases h1 : t < m - i
 ·rw [if_neg (by omega), if_neg (by omega), if_neg (by omega), if_neg (by omega), if_neg (by omega), if_neg (by omega)]
 by_cases h2 : m + j ≤ t
 ·rw [if_neg (by omega), if_neg (by omega), if_neg (by omega), if_neg (by omega), if_neg (by omega), if_neg (by omega)]
 by_cases h3 : t < m - i + j
 ·rw [if_neg (by omega), if_neg (by omega), if_pos (show m - i ≤ t ∧ t < m - i + j by omega), if_pos (by omega)]
  exact congrArg (fun z => d[z]!) (by omega)
 rw [if_neg (show ¬ (m - i ≤ t ∧ t < m - i + (m + j - m)) by omega), if_pos (show m - i + (m + j - m) ≤ t ∧ t < m + j by omega)]
 by_cases h4 : t < m - (i - j) + j
 ·rw [if_pos (show m - (i - j) ≤ t ∧ t < m - (i - j) + (m + j - m) by omega), if_neg (show ¬ (m - i ≤ t + (m - (m - (i - j))) ∧ t + (m - (m - (i - j))) < m - i + j) by omega), if_pos (show m ≤ t + (m - (m - (i - j))) ∧ t + (m - (m - (i - j))) < m + j by omega)]
  exact congrArg (fun z => d[z]!) (by omega)
 ·rw [if_neg (show ¬ (m - (i - j) ≤ t ∧ t < m - (i - j) + (m + j - m)) by omega), if_pos (show m - (i - j) + (m + j - m) ≤ t ∧ t < m + j by omega), if_neg (show ¬ (m - i ≤ t - (m + j - m) ∧ t - (m + j - m) < m - i + j) by omega), if_neg (show ¬ (m ≤ t - (m + j - m) ∧ t - (m + j - m) < m + j) by omega)]
theorem yy695 {d e : Array α} {m i j : Nat} (hi : i ≤ m) (hj : i < j) (h : yy120 d (m - i) (m + j - i) i e) (t : Nat) : rotF e (m - i) m (m + (j - i)) t = rotF d (m - i) m (m + j) t := by
 unfold rotF
 rw [h.2, h.2, h.2]
 by_cases h1 : t < m - i
 ·rw [if_neg (by omega), if_neg (by omega), if_neg (by omega), if_neg (by omega), if_neg (by omega), if_neg (by omega)]
 by_cases h2 : m + j ≤ t
 ·rw [if_neg (by omega), if_neg (by omega), if_neg (by omega), if_neg (by omega), if_neg (by omega), if_neg (by omega)]
 by_cases h3 : m + j - i ≤ t
 ·rw [if_neg (by omega), if_neg (by omega), if_neg (by omega), if_pos (show m + j - i ≤ t ∧ t < m + j - i + i by omega), if_neg (by omega), if_pos (by omega)]
  exact congrArg (fun z => d[z]!) (by omega)
 rw [if_pos (show m - i ≤ t ∧ t < m - i + (m + j - m) by omega)]
 by_cases h4 : t < m - i + (j - i)
 ·rw [if_pos (show m - i ≤ t ∧ t < m - i + (m + (j - i) - m) by omega), if_neg (show ¬ (m - i ≤ t + (m - (m - i)) ∧ t + (m - (m - i)) < m - i + i) by omega), if_neg (show ¬ (m + j - i ≤ t + (m - (m - i)) ∧ t + (m - (m - i)) < m + j - i + i) by omega)]
 ·rw [if_neg (show ¬ (m - i ≤ t ∧ t < m - i + (m + (j - i) - m)) by omega), if_pos (show m - i + (m + (j - i) - m) ≤ t ∧ t < m + (j - i) by omega), if_pos (show m - i ≤ t - (m + (j - i) - m) ∧ t - (m + (j - i) - m) < m - i + i by omega)]
  exact congrArg (fun z => d[z]!) (by omega)
theorem rot_up {d e : Array α} {a k : Nat} (hk : a ≤ k) (hz : k + 1 < d.size) (h : RotRes d a (a + 1) (k + 1) e) : RotRes d a (a + 1) (k + 2) (swp e k (k + 1)) := by
 refine ⟨by rw [swp_size]; exact h.1, fun t => ?_⟩
 rw [swp_get _ (by rw [h.1]; omega) (by rw [h.1]; omega), h.2 k, h.2 (k + 1), h.2 t]
 unfold rotF
 by_cases h1 : t = k + 1
 ·subst h1
  rw [if_pos rfl, if_neg (by omega), if_pos (by omega), if_neg (by omega), if_pos (by omega)]
  exact congrArg (fun z => d[z]!) (by omega)
 rw [if_neg h1]
 by_cases h2 : t = k
 ·subst h2
  rw [if_pos rfl, if_neg (by omega), if_neg (by omega), if_pos (by omega)]
  exact congrArg (fun z => d[z]!) (by omega)
 rw [if_neg h2]
 by_cases h3 : a ≤ t ∧ t < k
 ·rw [if_pos (by omega), if_pos (by omega)]
 ·rw [if_neg (by omega), if_neg (by omega), if_neg (by omega), if_neg (by omega)]
theorem yy696 {d e : Array α} {m k : Nat} (hk : k < m) (hz : m < d.size) (h : RotRes d (k + 1) m (m + 1) e) : RotRes d k m (m + 1) (swp e (k + 1) k) := by
 refine ⟨by rw [swp_size]; exact h.1, fun t => ?_⟩
 rw [swp_get _ (by rw [h.1]; omega) (by rw [h.1]; omega), h.2 k, h.2 (k + 1), h.2 t]
 unfold rotF
 by_cases h1 : t = k
 ·subst h1
  rw [if_pos rfl, if_pos (by omega), if_pos (by omega)]
  exact congrArg (fun z => d[z]!) (by omega)
 rw [if_neg h1]
 by_cases h2 : t = k + 1
 ·subst h2
  rw [if_pos rfl, if_neg (by omega), if_neg (by omega), if_neg (by omega), if_pos (by omega)]
  exact congrArg (fun z => d[z]!) (by omega)
 rw [if_neg h2]
 by_cases h3 : k + 1 < t ∧ t < m + 1
 ·rw [if_neg (by omega), if_pos (by omega), if_neg (by omega), if_pos (by omega)]
 ·rw [if_neg (by omega), if_neg (by omega), if_neg (by omega), if_neg (by omega)]
theorem yy296 {lt : α → α → Bool} {d e : Array α} {a m b s f : Nat} (h : RotRes d s m f e) (has : a ≤ s) (hsm : s ≤ m) (hmf : m ≤ f) (hfb : f ≤ b) (C : α → α → Prop)
  (hl : SortedIn lt a m d) (hr : SortedIn lt m b d) (hC : ∀ x y, a ≤ x → x < m → m ≤ y → y < b → C d[x]! d[y]!)
  (h1 : ∀ x y, a ≤ x → x < s → f ≤ y → y < b → lt d[y]! d[x]! = false) (h2 : ∀ x y, s ≤ x → x < m → m ≤ y → y < f → lt d[x]! d[y]! = false) :
  (SortedIn lt a s e ∧ SortedIn lt s (s + (f - m)) e ∧ ∀ x y, a ≤ x → x < s → s ≤ y → y < s + (f - m) → C e[x]! e[y]!) ∧
  (SortedIn lt (s + (f - m)) f e ∧ SortedIn lt f b e ∧ ∀ x y, s + (f - m) ≤ x → x < f → f ≤ y → y < b → C e[x]! e[y]!) ∧
  ∀ x y, a ≤ x → x < s + (f - m) → s + (f - m) ≤ y → y < b → lt e[y]! e[x]! = false := by
 have g1 : ∀ t, t < s → e[t]! = d[t]! := fun t ht => by rw [h.2, rotF, if_neg (by omega), if_neg (by omega)]
 have g2 : ∀ t, s ≤ t → t < s + (f - m) → e[t]! = d[t + (m - s)]! := fun t ht ht2 => by rw [h.2, rotF, if_pos ⟨ht, ht2⟩]
 have g3 : ∀ t, s + (f - m) ≤ t → t < f → e[t]! = d[t - (f - m)]! := fun t ht ht2 => by rw [h.2, rotF, if_neg (by omega), if_pos ⟨ht, ht2⟩]
 have g4 : ∀ t, f ≤ t → e[t]! = d[t]! := fun t ht => by rw [h.2, rotF, if_neg (by omega), if_neg (by omega)]
 refine ⟨⟨?_, ?_, ?_⟩, ⟨?_, ?_, ?_⟩, ?_⟩
 ·intro i j hi hij hj
  rw [g1 i (by omega), g1 j (by omega)]
  exact hl i j hi hij (by omega)
 ·intro i j hi hij hj
  rw [g2 i hi (by omega), g2 j (by omega) hj]
  exact hr _ _ (by omega) (by omega) (by omega)
 ·intro x y hx hxs hy hyf
  rw [g1 x hxs, g2 y hy hyf]
  exact hC _ _ hx (by omega) (by omega) (by omega)
 ·intro i j hi hij hj
  rw [g3 i hi (by omega), g3 j (by omega) hj]
  exact hl _ _ (by omega) (by omega) (by omega)
 ·intro i j hi hij hj
  rw [g4 i hi, g4 j (by omega)]
  exact hr _ _ (by omega) (by omega) (by omega)
 ·intro x y hx hxs hy hyf
  rw [g3 x hx hxs, g4 y hy]
  exact hC _ _ (by omega) (by omega) (by omega) hyf
 ·intro x y hx hxm hy hyb
  by_cases c1 : x < s
  ·rw [g1 x c1]
   by_cases c2 : y < f
   ·rw [g3 y hy c2]
    exact hl _ _ hx (by omega) (by omega)
   ·rw [g4 y (by omega)]
    exact h1 _ _ hx c1 (by omega) hyb
  ·rw [g2 x (by omega) hxm]
   by_cases c2 : y < f
   ·rw [g3 y hy c2]
    exact h2 _ _ (by omega) (by omega) (by omega) (by omega)
   ·rw [g4 y (by omega)]
    exact hr _ _ (by omega) (by omega) hyb
theorem yy19 {lt : α → α → Bool} {a b : Nat} {d e : Array α} (h : SortedIn lt a b d) (he : ∀ t, a ≤ t → t < b → e[t]! = d[t]!) : SortedIn lt a b e := fun i j hi hij hj => by
 rw [he i hi (by omega), he j (by omega) hj]
 exact h i j hi hij hj
theorem yy41 {lt : α → α → Bool} {e e1 e2 : Array α} {a mid b : Nat} (ham : a ≤ mid) (hmb : mid ≤ b) (hb : b ≤ e.size) (hx : ∀ x y, a ≤ x → x < mid → mid ≤ y → y < b → lt e[y]! e[x]! = false)
  (p1 : PermIn a mid e e1) (s1 : SortedIn lt a mid e1) (p2 : PermIn mid b e1 e2) (s2 : SortedIn lt mid b e2) : PermIn a b e e2 ∧ SortedIn lt a b e2 := by
 refine ⟨permIn_trans _ _ _ a b (permIn_mono e e1 a mid a b (Nat.le_refl _) hmb hb p1) (permIn_mono e1 e2 mid b a b ham (Nat.le_refl _) (by rw [p1.1]; exact hb) p2), ?_⟩
 have k1 : ∀ x y, a ≤ x → x < mid → mid ≤ y → y < b → lt e1[y]! e1[x]! = false := fun x y hx1 hx2 hy1 hy2 => by
  rw [p1.2.1 y (Or.inr hy1)]
  exact permIn_all e e1 a mid (fun v => lt e[y]! v = false) (by omega) p1 (fun i hi hi2 => hx i y hi hi2 hy1 hy2) x hx1 hx2
 have k2 : ∀ x y, a ≤ x → x < mid → mid ≤ y → y < b → lt e2[y]! e2[x]! = false := fun x y hx1 hx2 hy1 hy2 => by
  rw [p2.2.1 x (Or.inl hx2)]
  exact permIn_all e1 e2 mid b (fun v => lt v e1[x]! = false) (by rw [p1.1]; exact hb) p2 (fun i hi hi2 => k1 x i hx1 hx2 hi hi2) y hy1 hy2
 intro i j hi hij hj
 by_cases c1 : j < mid
 ·rw [p2.2.1 i (Or.inl (by omega)), p2.2.1 j (Or.inl c1)]
  exact s1 i j hi hij c1
 ·by_cases c2 : i < mid
  ·exact k2 i j hi c2 (by omega) hj
  ·exact s2 i j (by omega) hij hj
variable (key : α → Int)
def lx (x y : α × Nat) : Bool := decide (key x.1 < key y.1 ∨ (key x.1 = key y.1 ∧ x.2 < y.2))
omit [Inhabited α] in
theorem lx_swo : SWO (lx key) where
 irrefl x := by simp [lx]
 trans x y z h1 h2 := by
  have h1 := of_decide_eq_true h1
  have h2 := of_decide_eq_true h2
  exact decide_eq_true (by omega)
 ntrans x y z h1 h2 := by
  have h1 := of_decide_eq_false h1
  have h2 := of_decide_eq_false h2
  exact decide_eq_false (by omega)
def cf (x y : α × Nat) : Int := if key x.1 < key y.1 then -1 else if key y.1 < key x.1 then 1 else 0
omit [Inhabited α] in
theorem cf_neg (x y : α × Nat) : cf key x y < 0 ↔ key x.1 < key y.1 := by
 unfold cf
 split
 ·omega
 ·split <;> omega
omit [Inhabited α] in
theorem cf_lt {x y : α × Nat} (h : cf key y x < 0) : lx key x y = false := by
 have := (cf_neg key y x).1 h
 exact decide_eq_false (by omega)
omit [Inhabited α] in
theorem cf_ge {x y : α × Nat} (h : ¬ cf key y x < 0) (hn : x.2 < y.2) : lx key y x = false := by
 have : ¬ key y.1 < key x.1 := fun e => h ((cf_neg key y x).2 e)
 exact decide_eq_false (by omega)
omit [Inhabited α] in
theorem cf_lx {x y : α × Nat} (hn : x.2 < y.2) : decide (cf key y x < 0) = lx key y x := by
 unfold lx
 by_cases h : key y.1 < key x.1
 ·rw [decide_eq_true ((cf_neg key y x).2 h), decide_eq_true (Or.inl h)]
 ·rw [decide_eq_false (fun e => h ((cf_neg key y x).1 e)), decide_eq_false (by omega)]
theorem yy103 (lt : α → α → Bool) (a b : Nat) : ∀ (j : Nat) (d : Array α), j < b → b ≤ d.size → PermIn a b d (insInner lt a j d)
 | 0, d, _, _ => permIn_refl d a b
 | j + 1, d, hj, hb => by
  unfold insInner
  split
  ·rename_i hc
   have hc1 : j + 1 > a := by
    have := (Bool.and_eq_true _ _ ▸ hc).1
    simpa using this
   exact permIn_trans _ _ _ a b (swp_permIn d a b (j + 1) j (by omega) hj (by omega) (by omega) hb) (yy103 lt a b j _ (by omega) (by rw [swp_size]; exact hb))
  ·exact permIn_refl d a b
theorem yy297 (lt : α → α → Bool) (a b : Nat) : ∀ (n i : Nat) (d : Array α), b - i = n → b ≤ d.size → (insOuter lt a b i d).size = d.size := by
 intro n
 induction n with
 | zero => intro i d hn _; rw [insOuter, if_neg (by omega)]
 | succ n ih =>
  intro i d hn hb
  have P := yy103 lt a b i d (by omega) hb
  rw [insOuter, if_pos (by omega), ih (i + 1) _ (by omega) (by rw [P.1]; exact hb), P.1]
theorem yy520 (lt : α → α → Bool) (d : Array α) (a b : Nat) (hb : b ≤ d.size) : (Sort.insertionSort lt d a b).size = d.size := by
 unfold Sort.insertionSort
 exact yy297 lt a b _ (a + 1) d rfl hb
theorem yy225 (a : Nat) : ∀ (j : Nat) (d : Array (α × Nat)), j < d.size → (∀ p, a ≤ p → p < j → d[p]!.2 < d[j]!.2) → insInner (fun x y => decide (cf key x y < 0)) a j d = insInner (lx key) a j d
 | 0, d, _, _ => rfl
 | j + 1, d, hj, h => by
  unfold insInner
  by_cases hja : a < j + 1
  ·have e : decide (cf key d[j + 1]! d[j]! < 0) = lx key d[j + 1]! d[j]! := cf_lx key (h j (by omega) (by omega))
   rw [e]
   split
   ·refine yy225 a j _ (by rw [swp_size]; omega) fun p hp hpj => ?_
    have g := swp_get d hj (show j < d.size by omega)
    rw [g, g, if_neg (by omega), if_neg (by omega), if_pos rfl]
    exact h p hp (by omega)
   ·rfl
  ·have e : decide (j + 1 > a) = false := decide_eq_false hja
   rw [e]
   rfl
theorem yy440 (a b : Nat) : ∀ (n i : Nat) (d : Array (α × Nat)), b - i = n → a ≤ i → b ≤ d.size → (∀ p q, a ≤ p → p < q → i ≤ q → q < b → d[p]!.2 < d[q]!.2) →
  insOuter (fun x y => decide (cf key x y < 0)) a b i d = insOuter (lx key) a b i d := by
 intro n
 induction n with
 | zero => intro i d hn _ _ _; rw [insOuter, insOuter.eq_def (lx key), if_neg (show ¬ i < b by omega), if_neg (show ¬ i < b by omega)]
 | succ n ih =>
  intro i d hn hai hb h
  have hlt : i < b := by omega
  rw [insOuter, insOuter.eq_def (lx key), if_pos hlt, if_pos hlt]
  rw [yy225 key a i d (by omega) (fun p hp hpi => h p i hp hpi (Nat.le_refl _) hlt)]
  have P : PermIn a (i + 1) d (insInner (lx key) a i d) := yy103 (lx key) a (i + 1) i d (by omega) (by omega)
  refine ih (i + 1) _ (by omega) (by omega) (by rw [P.1]; exact hb) fun p q hp hpq hq hqb => ?_
  rw [P.2.1 q (Or.inr hq)]
  by_cases c : p < i + 1
  ·exact permIn_all d _ a (i + 1) (fun v => v.2 < d[q]!.2) (by omega) P (fun x hx hx2 => h x q hx (by omega) (by omega) hqb) p hp c
  ·rw [P.2.1 p (Or.inr (by omega))]
   exact h p q hp hpq (by omega) hqb
theorem yy521 (d : Array (α × Nat)) (a b : Nat) (hab : a ≤ b) (hb : b ≤ d.size) (h : ∀ p q, a ≤ p → p < q → q < b → d[p]!.2 < d[q]!.2) :
  PermIn a b d (Sort.insertionSort (fun x y => decide (cf key x y < 0)) d a b) ∧ SortedIn (lx key) a b (Sort.insertionSort (fun x y => decide (cf key x y < 0)) d a b) := by
 have e : Sort.insertionSort (fun x y => decide (cf key x y < 0)) d a b = Sort.insertionSort (lx key) d a b := by
  unfold Sort.insertionSort
  exact yy440 key a b _ (a + 1) d rfl (by omega) hb fun p q hp hpq hq hqb => h p q hp hpq hqb
 rw [e]
 exact insertionSort_holds (lx_swo key) d a b hab hb
def Blk (s j n : Nat) (e : Array (α × Nat)) : Prop := SortedIn (lx key) (j * s) (min ((j + 1) * s) n) e ∧ ∀ p, j * s ≤ p → p < (j + 1) * s → p < n → j * s ≤ e[p]!.2 ∧ e[p]!.2 < (j + 1) * s
variable {key}
theorem Blk.congr {s j n : Nat} {e e' : Array (α × Nat)} (h : Blk key s j n e) (he : ∀ t, j * s ≤ t → t < (j + 1) * s → t < n → e'[t]! = e[t]!) : Blk key s j n e' :=
 ⟨yy19 h.1 fun t h1 h2 => he t h1 (by omega) (by omega), fun p h1 h2 h3 => by rw [he p h1 h2 h3]; exact h.2 p h1 h2 h3⟩
theorem yy522 {s j n : Nat} {e : Array (α × Nat)} (h : n ≤ j * s) : Blk key s j n e := ⟨fun x y h1 h2 h3 => by omega, fun p h1 h2 h3 => by omega⟩
theorem yy104 (s k : Nat) : k * (2 * s) = (2 * k) * s ∧ (k + 1) * (2 * s) = (2 * k + 1) * s + s ∧ (2 * k + 1) * s = (2 * k) * s + s := by
 refine ⟨by rw [Nat.mul_comm 2 s, ← Nat.mul_assoc, Nat.mul_right_comm, Nat.mul_comm k 2], ?_, by rw [Nat.add_mul, Nat.one_mul]⟩
 rw [Nat.add_mul, Nat.add_mul, Nat.one_mul, Nat.one_mul, Nat.mul_comm 2 s, ← Nat.mul_assoc, Nat.mul_right_comm, Nat.mul_comm k 2, Nat.mul_comm s 2]
 omega
def Mix (key : α → Int) (s k n : Nat) (e : Array (α × Nat)) : Prop := (∀ j, j < k → Blk key (2 * s) j n e) ∧ ∀ j, 2 * k ≤ j → Blk key s j n e
theorem yy591 {s n : Nat} {e : Array (α × Nat)} (h : ∀ j, Blk key s j n e) : Mix key s 0 n e := ⟨fun j hj => by omega, fun j _ => h j⟩
theorem yy206 {s j k : Nat} (h : j ≤ k) : j * s ≤ k * s := Nat.mul_le_mul_right s h
theorem Mix.pair {s k n : Nat} {e : Array (α × Nat)} (h : Mix key s k n e) (hn : (2 * k + 1) * s < n) :
  SortedIn (lx key) ((2 * k) * s) ((2 * k + 1) * s) e ∧ SortedIn (lx key) ((2 * k + 1) * s) (min ((2 * k + 1) * s + s) n) e ∧
   ∀ x y, (2 * k) * s ≤ x → x < (2 * k + 1) * s → (2 * k + 1) * s ≤ y → y < min ((2 * k + 1) * s + s) n → e[x]!.2 < e[y]!.2 := by
 have b1 := h.2 (2 * k) (Nat.le_refl _)
 have b2 := h.2 (2 * k + 1) (by omega)
 have e2 : (2 * k + 1 + 1) * s = (2 * k + 1) * s + s := by rw [Nat.add_mul (2 * k + 1), Nat.one_mul]
 unfold Blk at b1 b2
 rw [e2] at b2
 refine ⟨fun i j hi hij hj => b1.1 i j hi hij (by omega), b2.1, fun x y hx hxs hy hyn => ?_⟩
 have c1 := b1.2 x hx hxs (by omega)
 have c2 := b2.2 y hy (by omega) (by omega)
 omega
theorem Mix.step {s k n : Nat} {e e' : Array (α × Nat)} (h : Mix key s k n e) (hz : n ≤ e.size) (hn : (2 * k + 1) * s < n) (hp : PermIn ((2 * k) * s) (min ((2 * k + 1) * s + s) n) e e') (hs : SortedIn (lx key) ((2 * k) * s) (min ((2 * k + 1) * s + s) n) e') : Mix key s (k + 1) n e' := by
 obtain ⟨m1, m2, m3⟩ := yy104 s k
 constructor
 ·intro j hj
  by_cases hjk : j < k
  ·refine (h.1 j hjk).congr fun t h1 h2 h3 => hp.2.1 t (Or.inl ?_)
   have := yy206 (s := 2 * s) (show j + 1 ≤ k by omega)
   omega
  ·have : j = k := by omega
   subst this
   refine ⟨by rw [m1, m2]; exact hs, fun p h1 h2 h3 => ?_⟩
   rw [m1] at h1 ⊢
   rw [m2] at h2 ⊢
   refine permIn_all e e' _ _ (fun v => 2 * j * s ≤ v.2 ∧ v.2 < (2 * j + 1) * s + s) (by omega) hp (fun i hi hi2 => ?_) p h1 (by omega)
   by_cases c : i < (2 * j + 1) * s
   ·have := (h.2 (2 * j) (Nat.le_refl _)).2 i hi c (by omega)
    omega
   ·have e2 : (2 * j + 1 + 1) * s = (2 * j + 1) * s + s := by rw [Nat.add_mul (2 * j + 1), Nat.one_mul]
    have := (h.2 (2 * j + 1) (by omega)).2 i (by omega) (by rw [e2]; omega) (by omega)
    rw [e2] at this
    omega
 ·intro j hj
  refine (h.2 j (by omega)).congr fun t h1 h2 h3 => hp.2.1 t (Or.inr ?_)
  have := yy206 (s := s) (show 2 * k + 1 + 1 ≤ j by omega)
  have e2 : (2 * k + 1 + 1) * s = (2 * k + 1) * s + s := by rw [Nat.add_mul (2 * k + 1), Nat.one_mul]
  omega
theorem Mix.done {s k n : Nat} {e : Array (α × Nat)} (h : Mix key s k n e) (hn : n ≤ (2 * k + 1) * s) : ∀ j, Blk key (2 * s) j n e := by
 obtain ⟨m1, m2, m3⟩ := yy104 s k
 intro j
 by_cases hjk : j < k
 ·exact h.1 j hjk
 by_cases hj : j = k
 ·subst hj
  have b := h.2 (2 * j) (Nat.le_refl _)
  refine ⟨fun x y h1 h2 h3 => b.1 x y (by rw [← m1]; exact h1) h2 (by omega), fun p h1 h2 h3 => ?_⟩
  have := b.2 p (by rw [← m1]; exact h1) (by omega) h3
  rw [m1, m2]
  omega
 ·refine yy522 ?_
  have := yy206 (s := 2 * s) (show k + 1 ≤ j by omega)
  omega
theorem yy748 {s n : Nat} {e : Array (α × Nat)} (h : Blk key s 0 n e) (hs : n ≤ s) : SortedIn (lx key) 0 n e := by
 have := h.1
 rw [Nat.zero_mul, Nat.zero_add, Nat.one_mul, Nat.min_eq_right hs] at this
 exact this
def Pre (key : α → Int) (s k n : Nat) (d e : Array (α × Nat)) : Prop := PermIn 0 n d e ∧ (∀ j, j < k → Blk key s j n e) ∧ ∀ p, k * s ≤ p → e[p]! = d[p]!
theorem yy592 (s n : Nat) (d : Array (α × Nat)) : Pre key s 0 n d d := ⟨permIn_refl d 0 n, fun j hj => by omega, fun _ _ => rfl⟩
def Idx (n : Nat) (d : Array (α × Nat)) : Prop := ∀ p, p < n → d[p]!.2 = p
theorem Pre.step {s k n b : Nat} {d e e' : Array (α × Nat)} (hI : Idx n d) (hz : d.size = n) (h : Pre key s k n d e) (hb : b = min ((k + 1) * s) n) (hk : k * s ≤ n) (he : e' = Sort.insertionSort (fun x y => decide (cf key x y < 0)) e (k * s) b) : Pre key s (k + 1) n d e' := by
 have e1 : (k + 1) * s = k * s + s := by rw [Nat.add_mul, Nat.one_mul]
 have hez : e.size = n := by rw [h.1.1]; exact hz
 obtain ⟨p1, s1⟩ := yy521 key e (k * s) b (by omega) (by omega) fun p q hp hpq hq => by
  rw [h.2.2 p hp, h.2.2 q (by omega), hI p (by omega), hI q (by omega)]
  exact hpq
 rw [← he] at p1 s1
 refine ⟨permIn_trans _ _ _ 0 n h.1 (permIn_mono e e' (k * s) b 0 n (by omega) (by omega) (by omega) p1), fun j hj => ?_, fun p hp => ?_⟩
 ·by_cases hjk : j < k
  ·refine (h.2.1 j hjk).congr fun t h1 h2 h3 => p1.2.1 t (Or.inl ?_)
   have := yy206 (s := s) (show j + 1 ≤ k by omega)
   omega
  ·have : j = k := by omega
   subst this
   refine ⟨by rw [← hb]; exact s1, fun p h1 h2 h3 => ?_⟩
   refine permIn_all e e' _ _ (fun v => j * s ≤ v.2 ∧ v.2 < (j + 1) * s) (by omega) p1 (fun i hi hi2 => ?_) p h1 (by omega)
   rw [h.2.2 i hi, hI i (by omega)]
   omega
 ·rw [p1.2.1 p (Or.inr (by omega))]
  exact h.2.2 p (by omega)
theorem Pre.done {s k n : Nat} {d e : Array (α × Nat)} (h : Pre key s k n d e) (hn : n ≤ k * s) : ∀ j, Blk key s j n e := fun j => by
 by_cases hj : j < k
 ·exact h.2.1 j hj
 ·refine yy522 (Nat.le_trans hn (yy206 (by omega)))
theorem yy697 {l : List α} {d e : Array (α × Nat)} (hd : d = l.zipIdx.toArray) (hp : PermIn 0 l.length d e) (hs : SortedIn (lx key) 0 l.length e) :
  ∃ m : List α, m = e.toList.map (·.1) ∧ m.length = l.length ∧ m.Perm l ∧ m.Pairwise (fun x y => key x ≤ key y) ∧ ∀ i : Int, m.filter (fun x => decide (key x = i)) = l.filter (fun x => decide (key x = i)) := by
 have hz : d.size = l.length := by rw [hd]; simp
 have hez : e.size = l.length := by rw [hp.1, hz]
 have hperm : e.toList.Perm l.zipIdx := by
  have h1 := hp.2.2
  have x1 : e.extract 0 l.length = e := by rw [← hez]; exact Array.extract_size
  have x2 : d.extract 0 l.length = d := by rw [← hz]; exact Array.extract_size
  rw [x1, x2, hd] at h1
  simpa using h1
 have hmap : l.zipIdx.map (·.1) = l := by simp
 have hpw : e.toList.Pairwise (fun x y => lx key y x = false) := by
  rw [List.pairwise_iff_getElem]
  intro i j hi hj hij
  have hi' : i < e.size := by simpa using hi
  have hj' : j < e.size := by simpa using hj
  have := hs i j (Nat.zero_le _) hij (by omega)
  rw [getElem!_pos e i hi', getElem!_pos e j hj'] at this
  simpa using this
 refine ⟨e.toList.map (·.1), rfl, by simpa using hez, ?_, ?_, fun i => ?_⟩
 ·have := hperm.map (·.1)
  rwa [hmap] at this
 ·rw [List.pairwise_map]
  exact hpw.imp fun {x y} h => by
   have := of_decide_eq_false h
   omega
 ·rw [List.filter_map]
  conv => rhs; rw [← hmap]
  rw [List.filter_map]
  refine congrArg _ ?_
  have hz0 : l.zipIdx.Pairwise (fun x y : α × Nat => x.2 ≤ y.2) := by
   rw [List.pairwise_iff_getElem]
   intro a b ha hb hab
   simp only [List.getElem_zipIdx]
   omega
  refine List.Perm.eq_of_pairwise (le := fun x y : α × Nat => x.2 ≤ y.2) ?_ ?_ (hz0.filter _) (hperm.filter _)
  ·intro a b ha hb h1 h2
   have ha' := hperm.mem_iff.1 (List.mem_filter.1 ha).1
   have hb' := (List.mem_filter.1 hb).1
   obtain ⟨a1, a2⟩ := a
   obtain ⟨b1, b2⟩ := b
   have e2 : a2 = b2 := Nat.le_antisymm h1 h2
   subst e2
   have x1 := List.mem_zipIdx_iff_getElem?.1 ha'
   have x2 := List.mem_zipIdx_iff_getElem?.1 hb'
   have x3 : some a1 = some b1 := x1.symm.trans x2
   injection x3 with x3
   rw [x3]
  ·rw [List.pairwise_filter]
   refine hpw.imp fun {x y} h hx hy => ?_
   have h := of_decide_eq_false h
   have hx : key x.1 = i := of_decide_eq_true hx
   have hy : key y.1 = i := of_decide_eq_true hy
   omega
end
attribute [irreducible] rotF
end Go.Proofs.YtjpjdkdbgjipnaaDoor
