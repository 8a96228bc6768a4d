/- A statement whose order Go leaves open, walked once, in one order: each operation taken ahead of others yields the same in every world that keeps what the relation says, and each of the others, which come up alone, keeps it. No condition beyond those that each lemma states. -/
import Derived.Test.YtgenphpaidanhaaMono
namespace Go.Proofs.Ytgenphpaidanhaa
open Go.RowKit

/-- What later worlds keep of earlier ones. -/
structure Keep where
  r : World → World → Prop
  refl : ∀ w, r w w
  trans : ∀ {a b c}, r a b → r b c → r a c
/-- These blocks stay as they are, and nothing is lost. -/
def keepBlocks (l : List Nat) : Keep where
  r w x := w.heap.size ≤ x.heap.size ∧ ∀ k ∈ l, x.heap[k]? = w.heap[k]?
  refl _ := ⟨Nat.le_refl _, fun _ _ => rfl⟩
  trans h1 h2 := ⟨Nat.le_trans h1.1 h2.1, fun k hk => (h2.2 k hk).trans (h1.2 k hk)⟩
def ExtK (R : Keep) (w : World) : Type := { x : World // R.r w x }
instance (R : Keep) (w : World) : Inhabited (ExtK R w) := ⟨⟨w, R.refl _⟩⟩
theorem cell_of_block {w x : World} {b : Nat} (h : x.heap[b]? = w.heap[b]?) (i : Nat) : x.cell? ⟨b, i, none⟩ = w.cell? ⟨b, i, none⟩ := by simp [World.cell?, h]
theorem frozen_of_block {w x : World} {b : Nat} (h : x.heap[b]? = w.heap[b]?) (i : Nat) : x.frozen? ⟨b, i, none⟩ = w.frozen? ⟨b, i, none⟩ := by simp [World.frozen?, h]

theorem keep_one {g : Nat} {w x : World} (h : w.heap.size ≤ x.heap.size) (hg : x.heap[g]? = w.heap[g]?) : (keepBlocks [g]).r w x :=
  ⟨h, fun k hk => by rw [List.mem_singleton.1 hk]; exact hg⟩
theorem keep_two {g s : Nat} {w x : World} (h : w.heap.size ≤ x.heap.size) (hg : x.heap[g]? = w.heap[g]?) (hs : x.heap[s]? = w.heap[s]?) : (keepBlocks [g, s]).r w x :=
  ⟨h, fun k hk => by
    rcases List.mem_cons.1 hk with e | e
    · rw [e]; exact hg
    · rw [List.mem_singleton.1 e]; exact hs⟩
theorem value_of_nilCheck {P : Program} {C : World → Prop} {ρ : Operand → Value} {o : Oper} {x : Operand} (ho : o.op = .nilCheck x) {w : World} {v : Value} (h : Oper.quietUpon P C w v ((execOp ρ o).run P w)) : (execOp ρ o).run P w = .ok (.value v) w := by
  obtain ⟨dst, op, type, pos, after, guard⟩ := o
  simp only at ho
  subst ho
  simp only [execOp] at h ⊢
  generalize ρ x = y at h ⊢
  split at h
  · simp [runtimePanic, Oper.quietUpon] at h
  · simp [runtimePanic, Oper.quietUpon] at h
  · simp [runtimePanic, Oper.quietUpon] at h
  · revert h
    split
    · intro h; simp [runtimePanic, Oper.quietUpon] at h
    · rename_i t u _
      have e : Sem.run P program w = .ok P w := rfl
      simp only [Sem.run_bind, e, Result.andThen_ok]
      generalize Sem.run P (nilAhead (P.types.size + Made.depth) t u _) w = r
      intro h
      cases r with
      | halt e w' => simp only [Result.andThen, Oper.quietUpon] at h
      | ok b w' =>
        simp only [Result.andThen_ok] at h ⊢
        split at h
        · simp [unsupported, Oper.quietUpon] at h
        · rename_i hb
          rw [if_neg hb]
          simp only [Sem.run_pure, Oper.quietUpon] at h ⊢
          rw [h.1, h.2]
    · intro h
      simp only [Sem.run_pure, Oper.quietUpon] at h ⊢
      rw [h.2]
  · simp only [Sem.run_pure, Oper.quietUpon] at h ⊢
    rw [h.2]

/-- The operations that yield one value and enter no function, a nil check among them. -/
def quietKindN (o : Oper) : Bool :=
  match o.op with
  | .nilCheck _ => true
  | _ => quietKind o
theorem yields_of_quiet {P : Program} {C : World → Prop} {o : Oper} {a : Act} (hk : quietKindN o = true) {w : World} {v : Value} (h : o.quietAt P a C w v) : (execOp a.eval o).run P w = .ok (.value v) w := by
  unfold Oper.quietAt at h
  by_cases hn : ∃ x, o.op = .nilCheck x
  · obtain ⟨x, hx⟩ := hn
    exact value_of_nilCheck hx h
  · have hk' : quietKind o = true := by
      unfold quietKindN at hk
      split at hk
      · rename_i x hx
        exact (hn ⟨_, hx⟩).elim
      · exact hk
    generalize hr : (execOp a.eval o).run P w = r at h ⊢
    cases r with
    | halt y w' => simp only [Oper.quietUpon] at h
    | ok n w' =>
      obtain ⟨u, rfl⟩ := value_of_kind hk' hr
      simp only [Oper.quietUpon] at h
      rw [h.1, h.2]
/-- What is asked of a schedule (see Mono). -/
def schedOkN (md : Region.Mode) (ops : Array Oper) : List (Nat × Bool) → Array Bool → Bool
  | [], listed => (Region.ready md ops listed).isEmpty
  | (i, true) :: s, listed => (match ops[i]? with | some o => quietKindN o | none => false) && (Region.ready md ops listed).contains i && Region.free md ops listed i && schedOkN md ops s (listed.setIfInBounds i true)
  | (i, false) :: s, listed => (Region.ready md ops listed == [i]) && schedOkN md ops s (listed.setIfInBounds i true)

/-- The walk in the schedule's order. -/
def wpK (P : Program) (R : Keep) (ops : Array Oper) (Q : Exit → Act → World → Prop) : List (Nat × Bool) → Act → World → Prop
  | [], a, w => Q .normal a w
  | (i, true) :: s, a, w => ∃ o, ops[i]? = some o ∧ if Region.wanted o (yielded ops a.tmps) = true then o.quiet P a (fun x => ∃ e : ExtK R w, x = e.val) (fun a' => wpK P R ops Q s a' w) else wpK P R ops Q s (a.put o.dst undef) w
  | (i, false) :: s, a, w => ∃ o, ops[i]? = some o ∧ if Region.wanted o (yielded ops a.tmps) = true then o.wp P a w (fun a' w' => R.r w w' ∧ wpK P R ops Q s a' w') Q else wpK P R ops Q s (a.put o.dst undef) w

section
variable {P : Program} {R : Keep} {ops : Array Oper} {Q : Exit → Act → World → Prop} {md : Region.Mode}

theorem wpK_sound (hs : Region.noSelect ops = true) (hQ : ∀ c a d v w, Q (.panic c) (Act.put a d v) w → Q (.panic c) a w) :
    ∀ (s : List (Nat × Bool)) (listed : Array Bool) (a : Act) (w : World), schedOkN md ops s listed = true → wpK P R ops Q s a w → wpAnyH P md ops Q (fun x => R.r w x) s.length listed a w := by
  intro s
  induction s with
  | nil =>
    intro listed a w hB h
    exact ⟨by simpa [schedOkN] using hB, h⟩
  | cons x s ih =>
    intro listed a w hB h
    obtain ⟨i, b⟩ := x
    cases b with
    | true =>
      obtain ⟨o, ho, h⟩ := h
      simp only [schedOkN, ho, Bool.and_eq_true] at hB
      obtain ⟨⟨⟨hk, hr⟩, hf⟩, hB'⟩ := hB
      split at h
      · rename_i hw
        obtain ⟨v, hv, hn⟩ := h
        refine wpAnyH_take ho hs hf hr (fun c a w h => hQ c a _ _ w h) (.inl ⟨hw, fun x hx => ?_⟩) (R.refl _) (ih _ _ _ hB' hn)
        exact yields_of_quiet hk (hv x ⟨⟨x, hx⟩, rfl⟩)
      · rename_i hw
        exact wpAnyH_take ho hs hf hr (fun c a w h => hQ c a _ _ w h) (.inr ⟨by simpa using hw, rfl⟩) (R.refl _) (ih _ _ _ hB' h)
    | false =>
      obtain ⟨o, ho, h⟩ := h
      simp only [schedOkN, Bool.and_eq_true, beq_iff_eq] at hB
      refine wpAnyH_all hB.1 (by simp) (fun j hj => ?_)
      obtain rfl : j = i := by simpa using hj
      unfold wpOp
      simp only [ho]
      split at h
      · rename_i hw
        rw [if_pos hw]
        refine .inl (Oper.wp_mono (fun a' w' h' => ⟨h'.1, ?_⟩) h)
        exact wpAnyH_mono (fun x hx => R.trans h'.1 hx) _ _ _ _ (ih _ _ _ hB.2 h'.2)
      · rename_i hw
        rw [if_neg hw]
        exact ⟨R.refl _, ih _ _ _ hB.2 h⟩

theorem wp_region_kept (R : Keep) {id : Nat} {a : Act} {w : World} (s : List (Nat × Bool)) (hm : P.follows .mixedOrders = true) (hs : (Region.noSelect ops && (s.length == ops.size) && schedOkN .any ops s (Array.replicate ops.size false)) = true)
    (hQ : ∀ c a d v w, Q (.panic c) (Act.put a d v) w → Q (.panic c) a w) (h : wpK P R ops Q s a w.drew) : (Code.region id ops true).wp P Q a w := by
  simp only [Bool.and_eq_true, beq_iff_eq] at hs
  refine wp_region_held (S := fun x => R.r w.drew x) hm ?_
  have := wpK_sound (md := .any) hs.1.1 hQ s _ a w.drew hs.2 h
  rw [hs.1.2] at this
  exact this

/-- The walk in the schedule's order, the operations written out. -/
def wpH (P : Program) (R : Keep) (ops : Array Oper) (Q : Exit → Act → World → Prop) : List (Oper × Bool) → Act → World → Prop
  | [], a, w => Q .normal a w
  | (o, true) :: s, a, w => if Region.wanted o (yielded ops a.tmps) = true then o.quiet P a (fun x => ∃ e : ExtK R w, x = e.val) (fun a' => wpH P R ops Q s a' w) else wpH P R ops Q s (a.put o.dst undef) w
  | (o, false) :: s, a, w => if Region.wanted o (yielded ops a.tmps) = true then o.wp P a w (fun a' w' => R.r w w' ∧ wpH P R ops Q s a' w') Q else wpH P R ops Q s (a.put o.dst undef) w
theorem wpK_of_wpH {ops : List Oper} : ∀ (s : List (Nat × Bool)) (a : Act) (w : World), (∀ x ∈ s, x.1 < ops.length) → wpH P R ops.toArray Q (picked ops s) a w → wpK P R ops.toArray Q s a w
  | [], _, _, _, h => h
  | (i, true) :: s, a, w, hl, h => by
    have hi : i < ops.length := hl (i, true) (List.mem_cons_self ..)
    refine ⟨ops[i], by simp [hi], ?_⟩
    have e : (ops[i]?).getD default = ops[i] := by simp [hi]
    simp only [picked, List.map_cons, wpH, e] at h
    split at h
    · rename_i hw
      rw [if_pos hw]
      exact Oper.quiet_mono (fun a' h' => wpK_of_wpH s a' w (fun x hx => hl x (List.mem_cons_of_mem _ hx)) h') h
    · rename_i hw
      rw [if_neg hw]
      exact wpK_of_wpH s _ w (fun x hx => hl x (List.mem_cons_of_mem _ hx)) h
  | (i, false) :: s, a, w, hl, h => by
    have hi : i < ops.length := hl (i, false) (List.mem_cons_self ..)
    refine ⟨ops[i], by simp [hi], ?_⟩
    have e : (ops[i]?).getD default = ops[i] := by simp [hi]
    simp only [picked, List.map_cons, wpH, e] at h
    split at h
    · rename_i hw
      rw [if_pos hw]
      exact Oper.wp_mono (fun a' w' h' => ⟨h'.1, wpK_of_wpH s a' w' (fun x hx => hl x (List.mem_cons_of_mem _ hx)) h'.2⟩) h
    · rename_i hw
      rw [if_neg hw]
      exact wpK_of_wpH s _ w (fun x hx => hl x (List.mem_cons_of_mem _ hx)) h

/-- THE BEGINNING, for a region that is written out. -/
theorem wp_region_held_lit (R : Keep) {id : Nat} {ops : List Oper} {a : Act} {w : World} (s : List (Nat × Bool)) (hm : P.follows .mixedOrders = true)
    (hs : (Region.noSelect ops.toArray && (s.length == ops.toArray.size) && schedOkN .any ops.toArray s (Array.replicate ops.toArray.size false) && s.all fun x => decide (x.1 < ops.length)) = true)
    (hQ : ∀ c a d v w, Q (.panic c) (Act.put a d v) w → Q (.panic c) a w) (h : wpH P R ops.toArray Q (picked ops s) a w.drew) : (Code.region id ops.toArray true).wp P Q a w := by
  rw [Bool.and_eq_true] at hs
  exact wp_region_kept R s hm hs.1 hQ (wpK_of_wpH s a w.drew (fun x hx => of_decide_eq_true (List.all_eq_true.1 hs.2 x hx)) h)

theorem wpH_nil {a : Act} {w : World} (h : Q .normal a w) : wpH P R ops Q [] a w := h
theorem wpH_skip {b : Bool} {s : List (Oper × Bool)} {o : Oper} {a : Act} {w : World} (hw : Region.wanted o (yielded ops a.tmps) = false) (h : wpH P R ops Q s (a.put o.dst undef) w) : wpH P R ops Q ((o, b) :: s) a w := by
  cases b <;> (simp only [wpH]; rw [if_neg (by rw [hw]; exact Bool.false_ne_true)]; exact h)
theorem wpH_quiet {s : List (Oper × Bool)} {o : Oper} {a : Act} {w : World} (hw : Region.wanted o (yielded ops a.tmps) = true)
    (h : ∀ K : Act → Prop, (∀ a', wpH P R ops Q s a' w → K a') → o.quiet P a (fun x => ∃ e : ExtK R w, x = e.val) K) : wpH P R ops Q ((o, true) :: s) a w := by
  simp only [wpH]; rw [if_pos hw]; exact h _ fun _ h => h
theorem wpH_one {s : List (Oper × Bool)} {o : Oper} {a : Act} {w : World} (hw : Region.wanted o (yielded ops a.tmps) = true)
    (h : ∀ K : Act → World → Prop, (∀ a' w', R.r w w' → wpH P R ops Q s a' w' → K a' w') → o.wp P a w K Q) : wpH P R ops Q ((o, false) :: s) a w := by
  simp only [wpH]; rw [if_pos hw]; exact h _ fun _ _ h1 h2 => ⟨h1, h2⟩
end
attribute [irreducible] wpH
end Go.Proofs.Ytgenphpaidanhaa
