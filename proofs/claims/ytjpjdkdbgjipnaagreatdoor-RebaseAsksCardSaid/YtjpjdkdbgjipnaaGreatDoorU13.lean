/- A scope of three labels among which the run jumps: what holds at each label, at a measure that each pass from a label to the next lowers. No condition. (Merged of 2 texts.) -/
import Derived.Scope
import Derived.Tactics
import Derived.Tactics2
namespace Go.Proofs.YtjpjdkdbgjipnaaGreatDoor
def down (J : Nat → Act → World → Prop) (μ : Nat → Act → Nat) (n : Nat) (Q : Exit → Act → World → Prop) : Exit → Act → World → Prop
 | .goto l, a, w => J l a w ∧ μ l a < n
 | e, a, w => Q e a w
theorem yy339 {J : Nat → Act → World → Prop} {μ : Nat → Act → Nat} {n : Nat} {Q : Exit → Act → World → Prop} {a : Act} {w : World} : down J μ n Q .ret a w = Q .ret a w := rfl
theorem yy39 {J : Nat → Act → World → Prop} {μ : Nat → Act → Nat} {n : Nat} {Q : Exit → Act → World → Prop} {l : Nat} {a : Act} {w : World} : down J μ n Q (.goto l) a w = (J l a w ∧ μ l a < n) := rfl
theorem yy118 {P : Program} {c : Code} {J : Nat → Act → World → Prop} {μ : Nat → Act → Nat} {m n : Nat} {Q : Exit → Act → World → Prop} {a : Act} {w : World} (h : m ≤ n) (hc : c.wp P (down J μ m Q) a w) : c.wp P (down J μ n Q) a w :=
 Code.wp_mono (fun e a w q => by cases e <;> first | exact q | exact ⟨q.1, Nat.lt_of_lt_of_le q.2 h⟩) hc
theorem yy75 {P : Program} {c : Code} {Q : Exit → Act → World → Prop} {a : Act} {w : World} (h : c.wp P Q a w) : (Code.skip.seq c).wp P Q a w := by
 go_wp2
 exact h
def Pass (P : Program) (c : Code) (J : Nat → Act → World → Prop) (μ : Nat → Act → Nat) (Q : Exit → Act → World → Prop) (l : Nat) : Prop := ∀ a w, J l a w → c.wp P (down J μ (μ l a) Q) a w
theorem yy301 {P : Program} {c r0 r1 r2 r3 : Code} {a : Act} {w : World} {Q : Exit → Act → World → Prop} (J : Nat → Act → World → Prop) (μ : Nat → Act → Nat)
  (hJ : ∀ l a w, J l a w → l < 4) (h0 : findLabel c 0 = some (Code.skip.seq r0)) (h1 : findLabel c 1 = some (Code.skip.seq r1)) (h2 : findLabel c 2 = some (Code.skip.seq r2)) (h3 : findLabel c 3 = some (Code.skip.seq r3))
  (p2 : Pass P r2 J μ Q 2) (p1 : Pass P r1 J μ Q 1) (p3 : Pass P r1 J μ Q 1 → Pass P r3 J μ Q 3) (p0 : Pass P r3 J μ Q 3 → Pass P r0 J μ Q 0)
  (first : Pass P r0 J μ Q 0 → ∃ n, c.wp P (down J μ n Q) a w) : (Code.scope c).wp P Q a w := by
 have q3 := p3 p1
 have q0 := p0 q3
 have pass : ∀ l a w, J l a w → ∃ r, findLabel c l = some r ∧ r.wp P (down J μ (μ l a) Q) a w := by
  intro l a w hl
  have := hJ l a w hl
  match l, this with
  | 0, _ => exact ⟨_, h0, yy75 (q0 a w hl)⟩
  | 1, _ => exact ⟨_, h1, yy75 (p1 a w hl)⟩
  | 2, _ => exact ⟨_, h2, yy75 (p2 a w hl)⟩
  | 3, _ => exact ⟨_, h3, yy75 (q3 a w hl)⟩
 obtain ⟨n, hn⟩ := first q0
 intro b k cs
 have key : ∀ n l a w, μ l a = n → J l a w → ∃ rest, findLabel c l = some rest ∧ ∃ e a' w', Q e a' w' ∧ Arrives P (lone (b.at a (.code rest :: .inScope c :: k)) cs w) b k cs e a' w' := by
  intro n
  induction n using Nat.strongRecOn with
  | _ n ih =>
   intro l a w hn hl
   obtain ⟨rest, hf, hp⟩ := pass l a w hl
   refine ⟨rest, hf, ?_⟩
   obtain ⟨e, a₁, w₁, hq, harr⟩ := hp b (.inScope c :: k) cs
   cases e with
   | normal => exact ⟨.normal, a₁, w₁, hq, Steps.trans harr (.one step_inScope)⟩
   | exit id => exact ⟨.exit id, a₁, w₁, hq, fun k' hk => harr k' (by simp [exitTo, hk])⟩
   | goto l' =>
    obtain ⟨hJ', hlt⟩ := hq
    obtain ⟨rest', hf', e₂, a₂, w₂, hq₂, harr₂⟩ := ih _ (by omega) l' a₁ w₁ rfl hJ'
    have hg : gotoIn l' (.inScope c :: k) = some (.code rest' :: .inScope c :: k) := by simp [gotoIn, hf']
    exact ⟨e₂, a₂, w₂, hq₂, .of_steps (harr _ hg) harr₂⟩
   | ret => exact ⟨_, a₁, w₁, hq, harr⟩
   | panic ch => exact ⟨_, a₁, w₁, hq, harr⟩
   | outgrown => exact ⟨_, a₁, w₁, hq, harr⟩
 obtain ⟨e, a₁, w₁, hq, harr⟩ := hn b (.inScope c :: k) cs
 cases e with
 | normal => exact ⟨.normal, a₁, w₁, hq, .head step_scope (Steps.trans harr (.one step_inScope))⟩
 | exit id => exact ⟨.exit id, a₁, w₁, hq, fun k' hk => .head step_scope (harr k' (by simp [exitTo, hk]))⟩
 | goto l' =>
  obtain ⟨hJ', _⟩ := hq
  obtain ⟨rest', hf', e₂, a₂, w₂, hq₂, harr₂⟩ := key _ l' a₁ w₁ rfl hJ'
  have hg : gotoIn l' (.inScope c :: k) = some (.code rest' :: .inScope c :: k) := by simp [gotoIn, hf']
  exact ⟨e₂, a₂, w₂, hq₂, .of_steps (.head step_scope (harr _ hg)) harr₂⟩
 | ret => exact ⟨_, a₁, w₁, hq, .of_steps (.one step_scope) harr⟩
 | panic ch => exact ⟨_, a₁, w₁, hq, .of_steps (.one step_scope) harr⟩
 | outgrown => exact ⟨_, a₁, w₁, hq, .of_steps (.one step_scope) harr⟩
attribute [irreducible] down
def downK (J : Nat → Nat → Act → World → Prop) (n : Nat) (Q : Exit → Act → World → Prop) : Exit → Act → World → Prop
 | .goto l, a, w => ∃ k, J l k a w ∧ k < n
 | e, a, w => Q e a w
theorem yy287 {J : Nat → Nat → Act → World → Prop} {n : Nat} {Q : Exit → Act → World → Prop} {a : Act} {w : World} : downK J n Q .ret a w = Q .ret a w := rfl
theorem yy4 {J : Nat → Nat → Act → World → Prop} {n : Nat} {Q : Exit → Act → World → Prop} {l : Nat} {a : Act} {w : World} : downK J n Q (.goto l) a w = (∃ k, J l k a w ∧ k < n) := rfl
theorem yy111 {P : Program} {c : Code} {J : Nat → Nat → Act → World → Prop} {m n : Nat} {Q : Exit → Act → World → Prop} {a : Act} {w : World} (h : m ≤ n) (hc : c.wp P (downK J m Q) a w) : c.wp P (downK J n Q) a w :=
 Code.wp_mono (fun e a w q => by
  cases e with
  | goto l =>
   obtain ⟨k, q1, q2⟩ := q
   exact ⟨k, q1, Nat.lt_of_lt_of_le q2 h⟩
  | _ => exact q) hc
def PassK (P : Program) (c : Code) (J : Nat → Nat → Act → World → Prop) (Q : Exit → Act → World → Prop) (l : Nat) : Prop := ∀ k a w, J l k a w → c.wp P (downK J k Q) a w
theorem yy523 {P : Program} {c r0 r1 r2 : Code} {a : Act} {w : World} {Q : Exit → Act → World → Prop} (J : Nat → Nat → Act → World → Prop)
  (hJ : ∀ l k a w, J l k a w → l < 3) (h0 : findLabel c 0 = some (Code.skip.seq r0)) (h1 : findLabel c 1 = some (Code.skip.seq r1)) (h2 : findLabel c 2 = some (Code.skip.seq r2))
  (p1 : PassK P r1 J Q 1) (p2 : PassK P r1 J Q 1 → PassK P r2 J Q 2) (p0 : PassK P r2 J Q 2 → PassK P r0 J Q 0)
  (first : PassK P r0 J Q 0 → ∃ n, c.wp P (downK J n Q) a w) : (Code.scope c).wp P Q a w := by
 have q2 := p2 p1
 have q0 := p0 q2
 have pass : ∀ l k a w, J l k a w → ∃ r, findLabel c l = some r ∧ r.wp P (downK J k Q) a w := by
  intro l k a w hl
  have := hJ l k a w hl
  match l, this with
  | 0, _ => exact ⟨_, h0, yy75 (q0 k a w hl)⟩
  | 1, _ => exact ⟨_, h1, yy75 (p1 k a w hl)⟩
  | 2, _ => exact ⟨_, h2, yy75 (q2 k a w hl)⟩
 obtain ⟨n, hn⟩ := first q0
 intro b k cs
 have key : ∀ n l a w, J l n a w → ∃ rest, findLabel c l = some rest ∧ ∃ e a' w', Q e a' w' ∧ Arrives P (lone (b.at a (.code rest :: .inScope c :: k)) cs w) b k cs e a' w' := by
  intro n
  induction n using Nat.strongRecOn with
  | _ n ih =>
   intro l a w hl
   obtain ⟨rest, hf, hp⟩ := pass l n a w hl
   refine ⟨rest, hf, ?_⟩
   obtain ⟨e, a₁, w₁, hq, harr⟩ := hp b (.inScope c :: k) cs
   cases e with
   | normal => exact ⟨.normal, a₁, w₁, hq, Steps.trans harr (.one step_inScope)⟩
   | exit id => exact ⟨.exit id, a₁, w₁, hq, fun k' hk => harr k' (by simp [exitTo, hk])⟩
   | goto l' =>
    obtain ⟨n', hJ', hlt⟩ := hq
    obtain ⟨rest', hf', e₂, a₂, w₂, hq₂, harr₂⟩ := ih n' hlt l' a₁ w₁ hJ'
    have hg : gotoIn l' (.inScope c :: k) = some (.code rest' :: .inScope c :: k) := by simp [gotoIn, hf']
    exact ⟨e₂, a₂, w₂, hq₂, .of_steps (harr _ hg) harr₂⟩
   | ret => exact ⟨_, a₁, w₁, hq, harr⟩
   | panic ch => exact ⟨_, a₁, w₁, hq, harr⟩
   | outgrown => exact ⟨_, a₁, w₁, hq, harr⟩
 obtain ⟨e, a₁, w₁, hq, harr⟩ := hn b (.inScope c :: k) cs
 cases e with
 | normal => exact ⟨.normal, a₁, w₁, hq, .head step_scope (Steps.trans harr (.one step_inScope))⟩
 | exit id => exact ⟨.exit id, a₁, w₁, hq, fun k' hk => .head step_scope (harr k' (by simp [exitTo, hk]))⟩
 | goto l' =>
  obtain ⟨n', hJ', _⟩ := hq
  obtain ⟨rest', hf', e₂, a₂, w₂, hq₂, harr₂⟩ := key _ l' a₁ w₁ hJ'
  have hg : gotoIn l' (.inScope c :: k) = some (.code rest' :: .inScope c :: k) := by simp [gotoIn, hf']
  exact ⟨e₂, a₂, w₂, hq₂, .of_steps (.head step_scope (harr _ hg)) harr₂⟩
 | ret => exact ⟨_, a₁, w₁, hq, .of_steps (.one step_scope) harr⟩
 | panic ch => exact ⟨_, a₁, w₁, hq, .of_steps (.one step_scope) harr⟩
 | outgrown => exact ⟨_, a₁, w₁, hq, .of_steps (.one step_scope) harr⟩
attribute [irreducible] downK
end Go.Proofs.YtjpjdkdbgjipnaaGreatDoor
