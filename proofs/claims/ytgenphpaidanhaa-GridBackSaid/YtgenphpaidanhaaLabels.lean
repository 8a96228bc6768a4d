/- A scope of four labels among which the run jumps back and ahead: what holds at each label, and a measure that each pass from a label to the next lowers. No condition. -/
import Derived.Scope
import Derived.Tactics
import Derived.Tactics2
namespace Go.Proofs.Ytgenphpaidanhaa

/-- As Q; by a goto to a label: what holds at that label, at a measure below n. -/
def down (J : Nat → Act → World → Prop) (μ : Nat → Act → Nat) (n : Nat) (Q : Exit → Act → World → Prop) : Exit → Act → World → Prop
  | .goto l, a, w => J l a w ∧ μ l a < n
  | e, a, w => Q e a w
theorem down_ret {J : Nat → Act → World → Prop} {μ : Nat → Act → Nat} {n : Nat} {Q : Exit → Act → World → Prop} {a : Act} {w : World} : down J μ n Q .ret a w = Q .ret a w := rfl
theorem down_goto {J : Nat → Act → World → Prop} {μ : Nat → Act → Nat} {n : Nat} {Q : Exit → Act → World → Prop} {l : Nat} {a : Act} {w : World} : down J μ n Q (.goto l) a w = (J l a w ∧ μ l a < n) := rfl
theorem down_mono {P : Program} {c : Code} {J : Nat → Act → World → Prop} {μ : Nat → Act → Nat} {m n : Nat} {Q : Exit → Act → World → Prop} {a : Act} {w : World} (h : m ≤ n) (hc : c.wp P (down J μ m Q) a w) : c.wp P (down J μ n Q) a w :=
  Code.wp_mono (fun e a w q => by cases e <;> first | exact q | exact ⟨q.1, Nat.lt_of_lt_of_le q.2 h⟩) hc

theorem skip_seq {P : Program} {c : Code} {Q : Exit → Act → World → Prop} {a : Act} {w : World} (h : c.wp P Q a w) : (Code.skip.seq c).wp P Q a w := by
  go_wp2
  exact h

/-- The pass from a label on: whatever is at hand there. -/
def Pass (P : Program) (c : Code) (J : Nat → Act → World → Prop) (μ : Nat → Act → Nat) (Q : Exit → Act → World → Prop) (l : Nat) : Prop := ∀ a w, J l a w → c.wp P (down J μ (μ l a) Q) a w

theorem wp_scope_four {P : Program} {c r0 r1 r2 r3 : Code} {a : Act} {w : World} {Q : Exit → Act → World → Prop} (J : Nat → Act → World → Prop) (μ : Nat → Act → Nat)
    (hJ : ∀ l a w, J l a w → l < 4) (h0 : findLabel c 0 = some (Code.skip.seq r0)) (h1 : findLabel c 1 = some (Code.skip.seq r1)) (h2 : findLabel c 2 = some (Code.skip.seq r2)) (h3 : findLabel c 3 = some (Code.skip.seq r3))
    (p2 : Pass P r2 J μ Q 2) (p1 : Pass P r1 J μ Q 1) (p3 : Pass P r1 J μ Q 1 → Pass P r3 J μ Q 3) (p0 : Pass P r3 J μ Q 3 → Pass P r0 J μ Q 0)
    (first : Pass P r0 J μ Q 0 → ∃ n, c.wp P (down J μ n Q) a w) : (Code.scope c).wp P Q a w := by
  have q3 := p3 p1
  have q0 := p0 q3
  have pass : ∀ l a w, J l a w → ∃ r, findLabel c l = some r ∧ r.wp P (down J μ (μ l a) Q) a w := by
    intro l a w hl
    have := hJ l a w hl
    match l, this with
    | 0, _ => exact ⟨_, h0, skip_seq (q0 a w hl)⟩
    | 1, _ => exact ⟨_, h1, skip_seq (p1 a w hl)⟩
    | 2, _ => exact ⟨_, h2, skip_seq (p2 a w hl)⟩
    | 3, _ => exact ⟨_, h3, skip_seq (q3 a w hl)⟩
  obtain ⟨n, hn⟩ := first q0
  intro b k cs
  have key : ∀ n l a w, μ l a = n → J l a w → ∃ rest, findLabel c l = some rest ∧ ∃ e a' w', Q e a' w' ∧ Arrives P (lone (b.at a (.code rest :: .inScope c :: k)) cs w) b k cs e a' w' := by
    intro n
    induction n using Nat.strongRecOn with
    | _ n ih =>
      intro l a w hn hl
      obtain ⟨rest, hf, hp⟩ := pass l a w hl
      refine ⟨rest, hf, ?_⟩
      obtain ⟨e, a₁, w₁, hq, harr⟩ := hp b (.inScope c :: k) cs
      cases e with
      | normal => exact ⟨.normal, a₁, w₁, hq, Steps.trans harr (.one step_inScope)⟩
      | exit id => exact ⟨.exit id, a₁, w₁, hq, fun k' hk => harr k' (by simp [exitTo, hk])⟩
      | goto l' =>
        obtain ⟨hJ', hlt⟩ := hq
        obtain ⟨rest', hf', e₂, a₂, w₂, hq₂, harr₂⟩ := ih _ (by omega) l' a₁ w₁ rfl hJ'
        have hg : gotoIn l' (.inScope c :: k) = some (.code rest' :: .inScope c :: k) := by simp [gotoIn, hf']
        exact ⟨e₂, a₂, w₂, hq₂, .of_steps (harr _ hg) harr₂⟩
      | ret => exact ⟨_, a₁, w₁, hq, harr⟩
      | panic ch => exact ⟨_, a₁, w₁, hq, harr⟩
      | outgrown => exact ⟨_, a₁, w₁, hq, harr⟩
  obtain ⟨e, a₁, w₁, hq, harr⟩ := hn b (.inScope c :: k) cs
  cases e with
  | normal => exact ⟨.normal, a₁, w₁, hq, .head step_scope (Steps.trans harr (.one step_inScope))⟩
  | exit id => exact ⟨.exit id, a₁, w₁, hq, fun k' hk => .head step_scope (harr k' (by simp [exitTo, hk]))⟩
  | goto l' =>
    obtain ⟨hJ', _⟩ := hq
    obtain ⟨rest', hf', e₂, a₂, w₂, hq₂, harr₂⟩ := key _ l' a₁ w₁ rfl hJ'
    have hg : gotoIn l' (.inScope c :: k) = some (.code rest' :: .inScope c :: k) := by simp [gotoIn, hf']
    exact ⟨e₂, a₂, w₂, hq₂, .of_steps (.head step_scope (harr _ hg)) harr₂⟩
  | ret => exact ⟨_, a₁, w₁, hq, .of_steps (.one step_scope) harr⟩
  | panic ch => exact ⟨_, a₁, w₁, hq, .of_steps (.one step_scope) harr⟩
  | outgrown => exact ⟨_, a₁, w₁, hq, .of_steps (.one step_scope) harr⟩

attribute [irreducible] down
end Go.Proofs.Ytgenphpaidanhaa
