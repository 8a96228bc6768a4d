/- A statement whose order Go leaves open, walked once, in one order: each operation taken ahead of others yields the same in every world that keeps what the relation says, and each of the others, which come up alone, keeps it. No condition beyond those that each lemma states. (Merged of 3 texts.) -/
import Derived.OrdersHeld
import Derived.Deep.Quiet
import Derived.BigQuiet
import Derived.Below
/- A statement whose order Go leaves open, and that holds calls which make memory: it is enough to walk it once, in one order, if each operation taken ahead of others only reads what is there, and each call leaves what was there as it was. No condition beyond those that each lemma states. -/
namespace Go.Proofs.Ytmedaimndaaiiaa
open Go.RowKit

/-- A world that has grown out of w: what was there is as it was. -/
def Ext (w : World) : Type := { x : World // Below w.heap.size w x }
instance (w : World) : Inhabited (Ext w) := ⟨⟨w, Below.refl _ _⟩⟩
theorem Ext.cell {w : World} {a : Addr} {v : Value} (h : w.cell? a = some v) (e : Ext w) : e.val.cell? a = some v :=
  (e.property.cell (World.block_lt_of_cell? w a h)).trans h

/-- The operations that yield one value and enter no function. -/
def quietKind (o : Oper) : Bool :=
  match o.op with
  | .move _ | .assign _ | .pick _ _ _ | .load _ _ | .binOp _ _ _ _ _ | .unOp _ _ _ | .convert _ _ _ | .slice _ _ _ _ _ | .fieldAddr _ _ _ | .field _ _ _ | .indexAddr _ _ _ | .index _ _ _ | .extract _ _ => true
  | .call c => match c.callee with | .builtin .len => true | .builtin .cap => true | _ => false
  | _ => false

theorem value_of_v {α : Type} {P : Program} {s : Sem α} {f : α → Value} {w w' : World} {n : Next} (h : (do pure (Next.value (f (← s))) : Sem Next).run P w = .ok n w') : ∃ u, n = .value u := by
  simp only [Sem.run_bind, Result.andThen] at h
  split at h
  · simp only [Sem.run_pure] at h
    injection h with h1 h2
    exact ⟨_, h1.symm⟩
  · cases h

theorem value_of_kind {P : Program} {ρ : Operand → Value} {o : Oper} (hk : quietKind o = true) {w w' : World} {n : Next} (h : (execOp ρ o).run P w = .ok n w') : ∃ u, n = .value u := by
  obtain ⟨dst, op, type, pos, after, guard⟩ := o
  cases op <;> simp only [quietKind] at hk <;> simp only [execOp] at h
  case move x => simp only [Sem.run_pure] at h; injection h with h1 h2; exact ⟨_, h1.symm⟩
  case assign x => simp only [Sem.run_pure] at h; injection h with h1 h2; exact ⟨_, h1.symm⟩
  case call c =>
    obtain ⟨callee, args, argTypes⟩ := c
    cases callee with
    | builtin b =>
      cases b <;> first
        | exact (Bool.false_ne_true hk).elim
        | (simp only [resolve, invoke, builtin, Sem.run_bind, Sem.run_pure, Result.andThen] at h
           split at h
           · injection h with h1 h2
             exact ⟨_, h1.symm⟩
           · cases h)
    | invoke _ _ => exact (Bool.false_ne_true hk).elim
    | value _ => exact (Bool.false_ne_true hk).elim
  all_goals first
    | exact (Bool.false_ne_true hk).elim
    | exact value_of_v (f := id) h
    | exact value_of_v (f := fun b => if b = true then _ else _) h

/-- What is asked of a schedule: an operation that is taken ahead may come up, only yields, and nobody who could come before it touches its temporaries; any other comes up alone. -/
def schedOk (md : Region.Mode) (ops : Array Oper) : List (Nat × Bool) → Array Bool → Bool
  | [], listed => (Region.ready md ops listed).isEmpty
  | (i, true) :: s, listed => (match ops[i]? with | some o => quietKind o | none => false) && (Region.ready md ops listed).contains i && Region.free md ops listed i && schedOk md ops s (listed.setIfInBounds i true)
  | (i, false) :: s, listed => (Region.ready md ops listed == [i]) && schedOk md ops s (listed.setIfInBounds i true)

/-- The walk in the schedule's order. -/
def wpM (P : Program) (ops : Array Oper) (Q : Exit → Act → World → Prop) : List (Nat × Bool) → Act → World → Prop
  | [], a, w => Q .normal a w
  | (i, true) :: s, a, w => ∃ o, ops[i]? = some o ∧ if Region.wanted o (yielded ops a.tmps) = true then o.quiet P a (fun x => ∃ e : Ext w, x = e.val) (fun a' => wpM P ops Q s a' w) else wpM P ops Q s (a.put o.dst undef) w
  | (i, false) :: s, a, w => ∃ o, ops[i]? = some o ∧ if Region.wanted o (yielded ops a.tmps) = true then o.wp P a w (fun a' w' => Below w.heap.size w w' ∧ wpM P ops Q s a' w') Q else wpM P ops Q s (a.put o.dst undef) w

section
variable {P : Program} {ops : Array Oper} {Q : Exit → Act → World → Prop} {md : Region.Mode}

theorem wpAnyH_mono {S S' : World → Prop} (hS : ∀ w, S w → S' w) : ∀ (fuel : Nat) (listed : Array Bool) (a : Act) (w : World), wpAnyH P md ops Q S fuel listed a w → wpAnyH P md ops Q S' fuel listed a w
  | 0, _, _, _, h => h
  | fuel + 1, _, _, _, h => ⟨h.1, fun i hi => wpOp_mono (fun a' w' h' => ⟨hS _ h'.1, wpAnyH_mono hS fuel _ a' w' h'.2⟩) (h.2 i hi)⟩

theorem wpM_sound (hs : Region.noSelect ops = true) (hQ : ∀ c a d v w, Q (.panic c) (Act.put a d v) w → Q (.panic c) a w) :
    ∀ (s : List (Nat × Bool)) (listed : Array Bool) (a : Act) (w : World), schedOk md ops s listed = true → wpM P ops Q s a w → wpAnyH P md ops Q (fun x => Below w.heap.size w x) s.length listed a w := by
  intro s
  induction s with
  | nil =>
    intro listed a w hB h
    exact ⟨by simpa [schedOk] using hB, h⟩
  | cons x s ih =>
    intro listed a w hB h
    obtain ⟨i, b⟩ := x
    cases b with
    | true =>
      obtain ⟨o, ho, h⟩ := h
      simp only [schedOk, ho, Bool.and_eq_true] at hB
      obtain ⟨⟨⟨hk, hr⟩, hf⟩, hB'⟩ := hB
      split at h
      · rename_i hw
        obtain ⟨v, hv, hn⟩ := h
        refine wpAnyH_take ho hs hf hr (fun c a w h => hQ c a _ _ w h) (.inl ⟨hw, fun x hx => ?_⟩) (Below.refl _ _) (ih _ _ _ hB' hn)
        have hq := hv x ⟨⟨x, hx⟩, rfl⟩
        unfold Oper.quietAt at hq
        generalize hr : (execOp a.eval o).run P x = r at hq
        cases r with
        | halt y w' => simp only [Oper.quietUpon] at hq
        | ok n w' =>
          obtain ⟨u, rfl⟩ := value_of_kind hk hr
          simp only [Oper.quietUpon] at hq
          obtain ⟨rfl, rfl⟩ := hq
          rfl
      · rename_i hw
        exact wpAnyH_take ho hs hf hr (fun c a w h => hQ c a _ _ w h) (.inr ⟨by simpa using hw, rfl⟩) (Below.refl _ _) (ih _ _ _ hB' h)
    | false =>
      obtain ⟨o, ho, h⟩ := h
      simp only [schedOk, Bool.and_eq_true, beq_iff_eq] at hB
      refine wpAnyH_all hB.1 (by simp) (fun j hj => ?_)
      obtain rfl : j = i := by simpa using hj
      unfold wpOp
      simp only [ho]
      split at h
      · rename_i hw
        rw [if_pos hw]
        refine .inl (Oper.wp_mono (fun a' w' h' => ⟨h'.1, ?_⟩) h)
        refine wpAnyH_mono (fun x hx => h'.1.trans (hx.mono h'.1.size)) _ _ _ _ (ih _ _ _ hB.2 h'.2)
      · rename_i hw
        rw [if_neg hw]
        exact ⟨Below.refl _ _, ih _ _ _ hB.2 h⟩

/-- THE BEGINNING: the schedule is asked once, by the kernel; the walk begins in the world behind the draw. -/
theorem wp_region_mono {id : Nat} {a : Act} {w : World} (s : List (Nat × Bool)) (hm : P.follows .mixedOrders = true) (hs : (Region.noSelect ops && (s.length == ops.size) && schedOk .any ops s (Array.replicate ops.size false)) = true)
    (hQ : ∀ c a d v w, Q (.panic c) (Act.put a d v) w → Q (.panic c) a w) (h : wpM P ops Q s a w.drew) : (Code.region id ops true).wp P Q a w := by
  simp only [Bool.and_eq_true, beq_iff_eq] at hs
  refine wp_region_held (S := fun x => Below w.drew.heap.size w.drew x) hm ?_
  have := wpM_sound (md := .any) hs.1.1 hQ s _ a w.drew hs.2 h
  rw [hs.1.2] at this
  exact this

/-! ### The same over the operations themselves, written out -/
/-- The walk in the schedule's order, the operations written out. -/
def wpL (P : Program) (ops : Array Oper) (Q : Exit → Act → World → Prop) : List (Oper × Bool) → Act → World → Prop
  | [], a, w => Q .normal a w
  | (o, true) :: s, a, w => if Region.wanted o (yielded ops a.tmps) = true then o.quiet P a (fun x => ∃ e : Ext w, x = e.val) (fun a' => wpL P ops Q s a' w) else wpL P ops Q s (a.put o.dst undef) w
  | (o, false) :: s, a, w => if Region.wanted o (yielded ops a.tmps) = true then o.wp P a w (fun a' w' => Below w.heap.size w w' ∧ wpL P ops Q s a' w') Q else wpL P ops Q s (a.put o.dst undef) w
def picked (ops : List Oper) (s : List (Nat × Bool)) : List (Oper × Bool) := s.map fun x => ((ops[x.1]?).getD default, x.2)
theorem wpM_of_wpL {ops : List Oper} : ∀ (s : List (Nat × Bool)) (a : Act) (w : World), (∀ x ∈ s, x.1 < ops.length) → wpL P ops.toArray Q (picked ops s) a w → wpM P ops.toArray Q s a w
  | [], _, _, _, h => h
  | (i, true) :: s, a, w, hl, h => by
    have hi : i < ops.length := hl (i, true) (List.mem_cons_self ..)
    refine ⟨ops[i], by simp [hi], ?_⟩
    have e : (ops[i]?).getD default = ops[i] := by simp [hi]
    simp only [picked, List.map_cons, wpL, e] at h
    split at h
    · rename_i hw
      rw [if_pos hw]
      exact Oper.quiet_mono (fun a' h' => wpM_of_wpL s a' w (fun x hx => hl x (List.mem_cons_of_mem _ hx)) h') h
    · rename_i hw
      rw [if_neg hw]
      exact wpM_of_wpL s _ w (fun x hx => hl x (List.mem_cons_of_mem _ hx)) h
  | (i, false) :: s, a, w, hl, h => by
    have hi : i < ops.length := hl (i, false) (List.mem_cons_self ..)
    refine ⟨ops[i], by simp [hi], ?_⟩
    have e : (ops[i]?).getD default = ops[i] := by simp [hi]
    simp only [picked, List.map_cons, wpL, e] at h
    split at h
    · rename_i hw
      rw [if_pos hw]
      exact Oper.wp_mono (fun a' w' h' => ⟨h'.1, wpM_of_wpL s a' w' (fun x hx => hl x (List.mem_cons_of_mem _ hx)) h'.2⟩) h
    · rename_i hw
      rw [if_neg hw]
      exact wpM_of_wpL s _ w (fun x hx => hl x (List.mem_cons_of_mem _ hx)) h

/-- THE BEGINNING, for a region that is written out. -/
theorem wp_region_lit {id : Nat} {ops : List Oper} {a : Act} {w : World} (s : List (Nat × Bool)) (hm : P.follows .mixedOrders = true)
    (hs : (Region.noSelect ops.toArray && (s.length == ops.toArray.size) && schedOk .any ops.toArray s (Array.replicate ops.toArray.size false) && s.all fun x => decide (x.1 < ops.length)) = true)
    (hQ : ∀ c a d v w, Q (.panic c) (Act.put a d v) w → Q (.panic c) a w) (h : wpL P ops.toArray Q (picked ops s) a w.drew) : (Code.region id ops.toArray true).wp P Q a w := by
  rw [Bool.and_eq_true] at hs
  exact wp_region_mono s hm hs.1 hQ (wpM_of_wpL s a w.drew (fun x hx => of_decide_eq_true (List.all_eq_true.1 hs.2 x hx)) h)

theorem wpL_nil {a : Act} {w : World} (h : Q .normal a w) : wpL P ops Q [] a w := h
theorem wpL_skip {b : Bool} {s : List (Oper × Bool)} {o : Oper} {a : Act} {w : World} (hw : Region.wanted o (yielded ops a.tmps) = false) (h : wpL P ops Q s (a.put o.dst undef) w) : wpL P ops Q ((o, b) :: s) a w := by
  cases b <;> (simp only [wpL]; rw [if_neg (by rw [hw]; exact Bool.false_ne_true)]; exact h)
theorem wpL_quiet {s : List (Oper × Bool)} {o : Oper} {a : Act} {w : World} (hw : Region.wanted o (yielded ops a.tmps) = true)
    (h : ∀ K : Act → Prop, (∀ a', wpL P ops Q s a' w → K a') → o.quiet P a (fun x => ∃ e : Ext w, x = e.val) K) : wpL P ops Q ((o, true) :: s) a w := by
  simp only [wpL]; rw [if_pos hw]; exact h _ fun _ h => h
theorem wpL_call {s : List (Oper × Bool)} {o : Oper} {a : Act} {w : World} (hw : Region.wanted o (yielded ops a.tmps) = true)
    (h : ∀ K : Act → World → Prop, (∀ a' w', Below w.heap.size w w' → wpL P ops Q s a' w' → K a' w') → o.wp P a w K Q) : wpL P ops Q ((o, false) :: s) a w := by
  simp only [wpL]; rw [if_pos hw]; exact h _ fun _ _ h1 h2 => ⟨h1, h2⟩
end
attribute [irreducible] wpL
end Go.Proofs.Ytmedaimndaaiiaa

/- A statement whose order Go leaves open, where now and then two operations that make memory may come up: the walk parts there, and goes on in both ways; everything else is walked once, as in Mono. No condition beyond those that each lemma states. -/
namespace Go.Proofs.Ytmedaimndaaiiaa
open Go.RowKit

/-- The base below which all stays as it was: a fixed one, or all that is there. -/
def baseOf : Option Nat → World → Nat
  | none, w => w.heap.size
  | some b, _ => b
theorem baseOf_mono {β : Option Nat} {w x : World} (h : w.heap.size ≤ x.heap.size) : baseOf β w ≤ baseOf β x := by
  cases β with
  | none => exact h
  | some b => exact Nat.le_refl _
/-- A world that has grown out of w: what was there below the base is as it was. -/
def ExtB (β : Option Nat) (w : World) : Type := { x : World // Below (baseOf β w) w x }
instance (β : Option Nat) (w : World) : Inhabited (ExtB β w) := ⟨⟨w, Below.refl _ _⟩⟩
theorem base_trans {β : Option Nat} {w x y : World} (h : Below (baseOf β w) w x) (h2 : Below (baseOf β x) x y) : Below (baseOf β w) w y := h.trans (h2.mono (baseOf_mono h.size))

theorem balloc' {B : Nat} {x : World} (h : B ≤ x.heap.size) (o : Obj) : Below B x (x.alloc o) := (Below.refl _ _).alloc h o

/-- A schedule that parts in two. -/
inductive Sched (α : Type) where
  | done : Sched α
  | quiet : α → Sched α → Sched α
  | one : α → Sched α → Sched α
  | two : α → Sched α → α → Sched α → Sched α
namespace Sched
def depth {α : Type} : Sched α → Nat
  | done => 0
  | quiet _ s => s.depth + 1
  | one _ s => s.depth + 1
  | two _ s _ _ => s.depth + 1
/-- What is asked of a schedule (see Mono). -/
def ok (md : Region.Mode) (ops : Array Oper) : Sched Nat → Array Bool → Bool
  | done, listed => (Region.ready md ops listed).isEmpty
  | quiet i s, listed => (match ops[i]? with | some o => quietKind o | none => false) && (Region.ready md ops listed).contains i && Region.free md ops listed i && ok md ops s (listed.setIfInBounds i true)
  | one i s, listed => (Region.ready md ops listed == [i]) && ok md ops s (listed.setIfInBounds i true)
  | two i s j t, listed => (Region.ready md ops listed == [i, j]) && (s.depth == t.depth) && ok md ops s (listed.setIfInBounds i true) && ok md ops t (listed.setIfInBounds j true)
def under (n : Nat) : Sched Nat → Bool
  | done => true
  | quiet i s => decide (i < n) && under n s
  | one i s => decide (i < n) && under n s
  | two i s j t => decide (i < n) && under n s && (decide (j < n) && under n t)
def picked (ops : List Oper) : Sched Nat → Sched Oper
  | done => done
  | quiet i s => quiet ((ops[i]?).getD default) (picked ops s)
  | one i s => one ((ops[i]?).getD default) (picked ops s)
  | two i s j t => two ((ops[i]?).getD default) (picked ops s) ((ops[j]?).getD default) (picked ops t)
/-- The walk in the schedule's order. -/
def walk (P : Program) (β : Option Nat) (ops : Array Oper) (Q : Exit → Act → World → Prop) : Sched Oper → Act → World → Prop
  | done, a, w => Q .normal a w
  | quiet o s, a, w => if Region.wanted o (yielded ops a.tmps) = true then o.quiet P a (fun x => ∃ e : ExtB β w, x = e.val) (fun a' => walk P β ops Q s a' w) else walk P β ops Q s (a.put o.dst undef) w
  | one o s, a, w => if Region.wanted o (yielded ops a.tmps) = true then o.wp P a w (fun a' w' => Below (baseOf β w) w w' ∧ walk P β ops Q s a' w') Q else walk P β ops Q s (a.put o.dst undef) w
  | two o s o' s', a, w => (if Region.wanted o (yielded ops a.tmps) = true then o.wp P a w (fun a' w' => Below (baseOf β w) w w' ∧ walk P β ops Q s a' w') Q else walk P β ops Q s (a.put o.dst undef) w) ∧
      (if Region.wanted o' (yielded ops a.tmps) = true then o'.wp P a w (fun a' w' => Below (baseOf β w) w w' ∧ walk P β ops Q s' a' w') Q else walk P β ops Q s' (a.put o'.dst undef) w)

section
variable {P : Program} {β : Option Nat} {ops : Array Oper} {Q : Exit → Act → World → Prop} {md : Region.Mode}

theorem step_sound {ops : List Oper} {i fuel : Nat} {s : Sched Nat} {listed : Array Bool} {a : Act} {w : World} (hi : i < ops.length)
    (ih : ∀ (a : Act) (w : World), walk P β ops.toArray Q (picked ops s) a w → wpAnyH P md ops.toArray Q (fun x => Below (baseOf β w) w x) fuel (listed.setIfInBounds i true) a w)
    (h : if Region.wanted ((ops[i]?).getD default) (yielded ops.toArray a.tmps) = true then ((ops[i]?).getD default).wp P a w (fun a' w' => Below (baseOf β w) w w' ∧ walk P β ops.toArray Q (picked ops s) a' w') Q
      else walk P β ops.toArray Q (picked ops s) (a.put ((ops[i]?).getD default).dst undef) w) :
    wpOp P ops.toArray Q i (fun a' w' => Below (baseOf β w) w w' ∧ wpAnyH P md ops.toArray Q (fun x => Below (baseOf β w) w x) fuel (listed.setIfInBounds i true) a' w') a w := by
  have e : (ops[i]?).getD default = ops[i] := by simp [hi]
  have ho : ops.toArray[i]? = some ops[i] := by simp [hi]
  rw [e] at h
  unfold wpOp
  simp only [ho]
  split at h
  · rename_i hw
    rw [if_pos hw]
    refine .inl (Oper.wp_mono (fun a' w' h' => ⟨h'.1, ?_⟩) h)
    exact wpAnyH_mono (fun x hx => base_trans h'.1 hx) _ _ _ _ (ih _ _ h'.2)
  · rename_i hw
    rw [if_neg hw]
    exact ⟨Below.refl _ _, ih _ _ h⟩

theorem walk_sound {ops : List Oper} (hs : Region.noSelect ops.toArray = true) (hQ : ∀ c a d v w, Q (.panic c) (Act.put a d v) w → Q (.panic c) a w) :
    ∀ (s : Sched Nat) (listed : Array Bool) (a : Act) (w : World), ok md ops.toArray s listed = true → under ops.length s = true → walk P β ops.toArray Q (picked ops s) a w → wpAnyH P md ops.toArray Q (fun x => Below (baseOf β w) w x) s.depth listed a w := by
  intro s
  induction s with
  | done =>
    intro listed a w hB _ h
    exact ⟨by simpa [ok] using hB, h⟩
  | quiet i s ih =>
    intro listed a w hB hu h
    simp only [under, Bool.and_eq_true, decide_eq_true_eq] at hu
    have e : (ops[i]?).getD default = ops[i] := by simp [hu.1]
    have ho : ops.toArray[i]? = some ops[i] := by simp [hu.1]
    simp only [ok, ho, Bool.and_eq_true] at hB
    obtain ⟨⟨⟨hk, hr⟩, hf⟩, hB'⟩ := hB
    simp only [picked, walk, e] at h
    split at h
    · rename_i hw
      obtain ⟨v, hv, hn⟩ := h
      refine wpAnyH_take ho hs hf hr (fun c a w h => hQ c a _ _ w h) (.inl ⟨hw, fun x hx => ?_⟩) (Below.refl _ _) (ih _ _ _ hB' hu.2 hn)
      have hq := hv x ⟨⟨x, hx⟩, rfl⟩
      unfold Oper.quietAt at hq
      generalize hr : (execOp a.eval ops[i]).run P x = r at hq
      cases r with
      | halt y w' => simp only [Oper.quietUpon] at hq
      | ok n w' =>
        obtain ⟨u, rfl⟩ := value_of_kind hk hr
        simp only [Oper.quietUpon] at hq
        obtain ⟨rfl, rfl⟩ := hq
        rfl
    · rename_i hw
      exact wpAnyH_take ho hs hf hr (fun c a w h => hQ c a _ _ w h) (.inr ⟨by simpa using hw, rfl⟩) (Below.refl _ _) (ih _ _ _ hB' hu.2 h)
  | one i s ih =>
    intro listed a w hB hu h
    simp only [under, Bool.and_eq_true, decide_eq_true_eq] at hu
    simp only [ok, Bool.and_eq_true, beq_iff_eq] at hB
    simp only [picked, walk] at h
    refine wpAnyH_all hB.1 (by simp) (fun j hj => ?_)
    obtain rfl : j = i := by simpa using hj
    exact step_sound hu.1 (fun a w h => ih _ _ _ hB.2 hu.2 h) h
  | two i s j t ihs iht =>
    intro listed a w hB hu h
    simp only [under, Bool.and_eq_true, decide_eq_true_eq] at hu
    simp only [ok, Bool.and_eq_true, beq_iff_eq] at hB
    simp only [picked, walk] at h
    refine wpAnyH_all hB.1.1.1 (by simp) (fun k hk => ?_)
    rcases List.mem_cons.1 hk with rfl | hk
    · exact step_sound hu.1.1 (fun a w h => ihs _ _ _ hB.1.2 hu.1.2 h) h.1
    · obtain rfl : k = j := by simpa using hk
      refine step_sound hu.2.1 (fun a w h => ?_) h.2
      rw [hB.1.1.2]
      exact iht _ _ _ hB.2 hu.2.2 h

/-- THE BEGINNING, for a region that is written out. -/
theorem wp_region_tree (β : Option Nat) {id : Nat} {ops : List Oper} {a : Act} {w : World} (s : Sched Nat) (hm : P.follows .mixedOrders = true)
    (hs : (Region.noSelect ops.toArray && (s.depth == ops.toArray.size) && ok .any ops.toArray s (Array.replicate ops.toArray.size false) && under ops.length s) = true)
    (hQ : ∀ c a d v w, Q (.panic c) (Act.put a d v) w → Q (.panic c) a w) (h : walk P β ops.toArray Q (picked ops s) a w.drew) : (Code.region id ops.toArray true).wp P Q a w := by
  simp only [Bool.and_eq_true, beq_iff_eq] at hs
  refine wp_region_held (S := fun x => Below (baseOf β w.drew) w.drew x) hm ?_
  have := walk_sound (md := .any) hs.1.1.1 hQ s _ a w.drew hs.1.2 hs.2 h
  rw [hs.1.1.2] at this
  exact this

theorem walk_done {a : Act} {w : World} (h : Q .normal a w) : walk P β ops Q .done a w := h
theorem walk_skip_quiet {s : Sched Oper} {o : Oper} {a : Act} {w : World} (hw : Region.wanted o (yielded ops a.tmps) = false) (h : walk P β ops Q s (a.put o.dst undef) w) : walk P β ops Q (.quiet o s) a w := by
  simp only [walk]; rw [if_neg (by rw [hw]; exact Bool.false_ne_true)]; exact h
theorem walk_skip_one {s : Sched Oper} {o : Oper} {a : Act} {w : World} (hw : Region.wanted o (yielded ops a.tmps) = false) (h : walk P β ops Q s (a.put o.dst undef) w) : walk P β ops Q (.one o s) a w := by
  simp only [walk]; rw [if_neg (by rw [hw]; exact Bool.false_ne_true)]; exact h
theorem walk_quiet {s : Sched Oper} {o : Oper} {a : Act} {w : World} (hw : Region.wanted o (yielded ops a.tmps) = true)
    (h : ∀ K : Act → Prop, (∀ a', walk P β ops Q s a' w → K a') → o.quiet P a (fun x => ∃ e : ExtB β w, x = e.val) K) : walk P β ops Q (.quiet o s) a w := by
  simp only [walk]; rw [if_pos hw]; exact h _ fun _ h => h
theorem walk_one {s : Sched Oper} {o : Oper} {a : Act} {w : World} (hw : Region.wanted o (yielded ops a.tmps) = true)
    (h : ∀ K : Act → World → Prop, (∀ a' w', Below (baseOf β w) w w' → walk P β ops Q s a' w' → K a' w') → o.wp P a w K Q) : walk P β ops Q (.one o s) a w := by
  simp only [walk]; rw [if_pos hw]; exact h _ fun _ _ h1 h2 => ⟨h1, h2⟩
theorem walk_two {s t : Sched Oper} {o o' : Oper} {a : Act} {w : World} (h1 : walk P β ops Q (.one o s) a w) (h2 : walk P β ops Q (.one o' t) a w) : walk P β ops Q (.two o s o' t) a w := by
  simp only [walk] at h1 h2 ⊢; exact ⟨h1, h2⟩
end
attribute [irreducible] walk
end Sched
end Go.Proofs.Ytmedaimndaaiiaa

/- A statement whose order Go leaves open, walked once, in one order: each operation taken ahead of others yields the same in every world that keeps what the relation says, and each of the others, which come up alone, keeps it. No condition beyond those that each lemma states. -/
namespace Go.Proofs.Ytmedaimndaaiiaa
open Go.RowKit

/-- What later worlds keep of earlier ones. -/
structure Keep where
  r : World → World → Prop
  refl : ∀ w, r w w
  trans : ∀ {a b c}, r a b → r b c → r a c
/-- These blocks stay as they are, and nothing is lost. -/
def keepBlocks (l : List Nat) : Keep where
  r w x := w.heap.size ≤ x.heap.size ∧ ∀ k ∈ l, x.heap[k]? = w.heap[k]?
  refl _ := ⟨Nat.le_refl _, fun _ _ => rfl⟩
  trans h1 h2 := ⟨Nat.le_trans h1.1 h2.1, fun k hk => (h2.2 k hk).trans (h1.2 k hk)⟩
def ExtK (R : Keep) (w : World) : Type := { x : World // R.r w x }
instance (R : Keep) (w : World) : Inhabited (ExtK R w) := ⟨⟨w, R.refl _⟩⟩
theorem cell_of_block {w x : World} {b : Nat} (h : x.heap[b]? = w.heap[b]?) (i : Nat) : x.cell? ⟨b, i, none⟩ = w.cell? ⟨b, i, none⟩ := by simp [World.cell?, h]
theorem frozen_of_block {w x : World} {b : Nat} (h : x.heap[b]? = w.heap[b]?) (i : Nat) : x.frozen? ⟨b, i, none⟩ = w.frozen? ⟨b, i, none⟩ := by simp [World.frozen?, h]

theorem keep_one {g : Nat} {w x : World} (h : w.heap.size ≤ x.heap.size) (hg : x.heap[g]? = w.heap[g]?) : (keepBlocks [g]).r w x :=
  ⟨h, fun k hk => by rw [List.mem_singleton.1 hk]; exact hg⟩
theorem keep_two {g s : Nat} {w x : World} (h : w.heap.size ≤ x.heap.size) (hg : x.heap[g]? = w.heap[g]?) (hs : x.heap[s]? = w.heap[s]?) : (keepBlocks [g, s]).r w x :=
  ⟨h, fun k hk => by
    rcases List.mem_cons.1 hk with e | e
    · rw [e]; exact hg
    · rw [List.mem_singleton.1 e]; exact hs⟩
theorem value_of_nilCheck {P : Program} {C : World → Prop} {ρ : Operand → Value} {o : Oper} {x : Operand} (ho : o.op = .nilCheck x) {w : World} {v : Value} (h : Oper.quietUpon P C w v ((execOp ρ o).run P w)) : (execOp ρ o).run P w = .ok (.value v) w := by
  obtain ⟨dst, op, type, pos, after, guard⟩ := o
  simp only at ho
  subst ho
  simp only [execOp] at h ⊢
  generalize ρ x = y at h ⊢
  split at h
  · simp [runtimePanic, Oper.quietUpon] at h
  · simp [runtimePanic, Oper.quietUpon] at h
  · simp [runtimePanic, Oper.quietUpon] at h
  · revert h
    split
    · intro h; simp [runtimePanic, Oper.quietUpon] at h
    · rename_i t u _
      have e : Sem.run P program w = .ok P w := rfl
      simp only [Sem.run_bind, e, Result.andThen_ok]
      generalize Sem.run P (nilAhead (P.types.size + Made.depth) t u _) w = r
      intro h
      cases r with
      | halt e w' => simp only [Result.andThen, Oper.quietUpon] at h
      | ok b w' =>
        simp only [Result.andThen_ok] at h ⊢
        split at h
        · simp [unsupported, Oper.quietUpon] at h
        · rename_i hb
          rw [if_neg hb]
          simp only [Sem.run_pure, Oper.quietUpon] at h ⊢
          rw [h.1, h.2]
    · intro h
      simp only [Sem.run_pure, Oper.quietUpon] at h ⊢
      rw [h.2]
  · simp only [Sem.run_pure, Oper.quietUpon] at h ⊢
    rw [h.2]

/-- The operations that yield one value and enter no function, a nil check among them. -/
def quietKindN (o : Oper) : Bool :=
  match o.op with
  | .nilCheck _ => true
  | _ => quietKind o
theorem yields_of_quiet {P : Program} {C : World → Prop} {o : Oper} {a : Act} (hk : quietKindN o = true) {w : World} {v : Value} (h : o.quietAt P a C w v) : (execOp a.eval o).run P w = .ok (.value v) w := by
  unfold Oper.quietAt at h
  by_cases hn : ∃ x, o.op = .nilCheck x
  · obtain ⟨x, hx⟩ := hn
    exact value_of_nilCheck hx h
  · have hk' : quietKind o = true := by
      unfold quietKindN at hk
      split at hk
      · rename_i x hx
        exact (hn ⟨_, hx⟩).elim
      · exact hk
    generalize hr : (execOp a.eval o).run P w = r at h ⊢
    cases r with
    | halt y w' => simp only [Oper.quietUpon] at h
    | ok n w' =>
      obtain ⟨u, rfl⟩ := value_of_kind hk' hr
      simp only [Oper.quietUpon] at h
      rw [h.1, h.2]
/-- What is asked of a schedule (see Mono). -/
def schedOkN (md : Region.Mode) (ops : Array Oper) : List (Nat × Bool) → Array Bool → Bool
  | [], listed => (Region.ready md ops listed).isEmpty
  | (i, true) :: s, listed => (match ops[i]? with | some o => quietKindN o | none => false) && (Region.ready md ops listed).contains i && Region.free md ops listed i && schedOkN md ops s (listed.setIfInBounds i true)
  | (i, false) :: s, listed => (Region.ready md ops listed == [i]) && schedOkN md ops s (listed.setIfInBounds i true)

/-- The walk in the schedule's order. -/
def wpK (P : Program) (R : Keep) (ops : Array Oper) (Q : Exit → Act → World → Prop) : List (Nat × Bool) → Act → World → Prop
  | [], a, w => Q .normal a w
  | (i, true) :: s, a, w => ∃ o, ops[i]? = some o ∧ if Region.wanted o (yielded ops a.tmps) = true then o.quiet P a (fun x => ∃ e : ExtK R w, x = e.val) (fun a' => wpK P R ops Q s a' w) else wpK P R ops Q s (a.put o.dst undef) w
  | (i, false) :: s, a, w => ∃ o, ops[i]? = some o ∧ if Region.wanted o (yielded ops a.tmps) = true then o.wp P a w (fun a' w' => R.r w w' ∧ wpK P R ops Q s a' w') Q else wpK P R ops Q s (a.put o.dst undef) w

section
variable {P : Program} {R : Keep} {ops : Array Oper} {Q : Exit → Act → World → Prop} {md : Region.Mode}

theorem wpK_sound (hs : Region.noSelect ops = true) (hQ : ∀ c a d v w, Q (.panic c) (Act.put a d v) w → Q (.panic c) a w) :
    ∀ (s : List (Nat × Bool)) (listed : Array Bool) (a : Act) (w : World), schedOkN md ops s listed = true → wpK P R ops Q s a w → wpAnyH P md ops Q (fun x => R.r w x) s.length listed a w := by
  intro s
  induction s with
  | nil =>
    intro listed a w hB h
    exact ⟨by simpa [schedOkN] using hB, h⟩
  | cons x s ih =>
    intro listed a w hB h
    obtain ⟨i, b⟩ := x
    cases b with
    | true =>
      obtain ⟨o, ho, h⟩ := h
      simp only [schedOkN, ho, Bool.and_eq_true] at hB
      obtain ⟨⟨⟨hk, hr⟩, hf⟩, hB'⟩ := hB
      split at h
      · rename_i hw
        obtain ⟨v, hv, hn⟩ := h
        refine wpAnyH_take ho hs hf hr (fun c a w h => hQ c a _ _ w h) (.inl ⟨hw, fun x hx => ?_⟩) (R.refl _) (ih _ _ _ hB' hn)
        exact yields_of_quiet hk (hv x ⟨⟨x, hx⟩, rfl⟩)
      · rename_i hw
        exact wpAnyH_take ho hs hf hr (fun c a w h => hQ c a _ _ w h) (.inr ⟨by simpa using hw, rfl⟩) (R.refl _) (ih _ _ _ hB' h)
    | false =>
      obtain ⟨o, ho, h⟩ := h
      simp only [schedOkN, Bool.and_eq_true, beq_iff_eq] at hB
      refine wpAnyH_all hB.1 (by simp) (fun j hj => ?_)
      obtain rfl : j = i := by simpa using hj
      unfold wpOp
      simp only [ho]
      split at h
      · rename_i hw
        rw [if_pos hw]
        refine .inl (Oper.wp_mono (fun a' w' h' => ⟨h'.1, ?_⟩) h)
        exact wpAnyH_mono (fun x hx => R.trans h'.1 hx) _ _ _ _ (ih _ _ _ hB.2 h'.2)
      · rename_i hw
        rw [if_neg hw]
        exact ⟨R.refl _, ih _ _ _ hB.2 h⟩

theorem wp_region_kept (R : Keep) {id : Nat} {a : Act} {w : World} (s : List (Nat × Bool)) (hm : P.follows .mixedOrders = true) (hs : (Region.noSelect ops && (s.length == ops.size) && schedOkN .any ops s (Array.replicate ops.size false)) = true)
    (hQ : ∀ c a d v w, Q (.panic c) (Act.put a d v) w → Q (.panic c) a w) (h : wpK P R ops Q s a w.drew) : (Code.region id ops true).wp P Q a w := by
  simp only [Bool.and_eq_true, beq_iff_eq] at hs
  refine wp_region_held (S := fun x => R.r w.drew x) hm ?_
  have := wpK_sound (md := .any) hs.1.1 hQ s _ a w.drew hs.2 h
  rw [hs.1.2] at this
  exact this

/-- The walk in the schedule's order, the operations written out. -/
def wpH (P : Program) (R : Keep) (ops : Array Oper) (Q : Exit → Act → World → Prop) : List (Oper × Bool) → Act → World → Prop
  | [], a, w => Q .normal a w
  | (o, true) :: s, a, w => if Region.wanted o (yielded ops a.tmps) = true then o.quiet P a (fun x => ∃ e : ExtK R w, x = e.val) (fun a' => wpH P R ops Q s a' w) else wpH P R ops Q s (a.put o.dst undef) w
  | (o, false) :: s, a, w => if Region.wanted o (yielded ops a.tmps) = true then o.wp P a w (fun a' w' => R.r w w' ∧ wpH P R ops Q s a' w') Q else wpH P R ops Q s (a.put o.dst undef) w
theorem wpK_of_wpH {ops : List Oper} : ∀ (s : List (Nat × Bool)) (a : Act) (w : World), (∀ x ∈ s, x.1 < ops.length) → wpH P R ops.toArray Q (picked ops s) a w → wpK P R ops.toArray Q s a w
  | [], _, _, _, h => h
  | (i, true) :: s, a, w, hl, h => by
    have hi : i < ops.length := hl (i, true) (List.mem_cons_self ..)
    refine ⟨ops[i], by simp [hi], ?_⟩
    have e : (ops[i]?).getD default = ops[i] := by simp [hi]
    simp only [picked, List.map_cons, wpH, e] at h
    split at h
    · rename_i hw
      rw [if_pos hw]
      exact Oper.quiet_mono (fun a' h' => wpK_of_wpH s a' w (fun x hx => hl x (List.mem_cons_of_mem _ hx)) h') h
    · rename_i hw
      rw [if_neg hw]
      exact wpK_of_wpH s _ w (fun x hx => hl x (List.mem_cons_of_mem _ hx)) h
  | (i, false) :: s, a, w, hl, h => by
    have hi : i < ops.length := hl (i, false) (List.mem_cons_self ..)
    refine ⟨ops[i], by simp [hi], ?_⟩
    have e : (ops[i]?).getD default = ops[i] := by simp [hi]
    simp only [picked, List.map_cons, wpH, e] at h
    split at h
    · rename_i hw
      rw [if_pos hw]
      exact Oper.wp_mono (fun a' w' h' => ⟨h'.1, wpK_of_wpH s a' w' (fun x hx => hl x (List.mem_cons_of_mem _ hx)) h'.2⟩) h
    · rename_i hw
      rw [if_neg hw]
      exact wpK_of_wpH s _ w (fun x hx => hl x (List.mem_cons_of_mem _ hx)) h

/-- THE BEGINNING, for a region that is written out. -/
theorem wp_region_held_lit (R : Keep) {id : Nat} {ops : List Oper} {a : Act} {w : World} (s : List (Nat × Bool)) (hm : P.follows .mixedOrders = true)
    (hs : (Region.noSelect ops.toArray && (s.length == ops.toArray.size) && schedOkN .any ops.toArray s (Array.replicate ops.toArray.size false) && s.all fun x => decide (x.1 < ops.length)) = true)
    (hQ : ∀ c a d v w, Q (.panic c) (Act.put a d v) w → Q (.panic c) a w) (h : wpH P R ops.toArray Q (picked ops s) a w.drew) : (Code.region id ops.toArray true).wp P Q a w := by
  rw [Bool.and_eq_true] at hs
  exact wp_region_kept R s hm hs.1 hQ (wpK_of_wpH s a w.drew (fun x hx => of_decide_eq_true (List.all_eq_true.1 hs.2 x hx)) h)

theorem wpH_nil {a : Act} {w : World} (h : Q .normal a w) : wpH P R ops Q [] a w := h
theorem wpH_skip {b : Bool} {s : List (Oper × Bool)} {o : Oper} {a : Act} {w : World} (hw : Region.wanted o (yielded ops a.tmps) = false) (h : wpH P R ops Q s (a.put o.dst undef) w) : wpH P R ops Q ((o, b) :: s) a w := by
  cases b <;> (simp only [wpH]; rw [if_neg (by rw [hw]; exact Bool.false_ne_true)]; exact h)
theorem wpH_quiet {s : List (Oper × Bool)} {o : Oper} {a : Act} {w : World} (hw : Region.wanted o (yielded ops a.tmps) = true)
    (h : ∀ K : Act → Prop, (∀ a', wpH P R ops Q s a' w → K a') → o.quiet P a (fun x => ∃ e : ExtK R w, x = e.val) K) : wpH P R ops Q ((o, true) :: s) a w := by
  simp only [wpH]; rw [if_pos hw]; exact h _ fun _ h => h
theorem wpH_one {s : List (Oper × Bool)} {o : Oper} {a : Act} {w : World} (hw : Region.wanted o (yielded ops a.tmps) = true)
    (h : ∀ K : Act → World → Prop, (∀ a' w', R.r w w' → wpH P R ops Q s a' w' → K a' w') → o.wp P a w K Q) : wpH P R ops Q ((o, false) :: s) a w := by
  simp only [wpH]; rw [if_pos hw]; exact h _ fun _ _ h1 h2 => ⟨h1, h2⟩
end
attribute [irreducible] wpH
end Go.Proofs.Ytmedaimndaaiiaa
