/- A statement whose order Go leaves open, where now and then two operations that make memory may come up: the walk parts there, and goes on in both ways; everything else is walked once, as in Mono. No condition beyond those that each lemma states. -/
import Derived.Test.YtfbkdabnbddgpaaMono
namespace Go.Proofs.Ytfbkdabnbddgpaa
open Go.RowKit

/-- The base below which all stays as it was: a fixed one, or all that is there. -/
def baseOf : Option Nat → World → Nat
  | none, w => w.heap.size
  | some b, _ => b
theorem baseOf_mono {β : Option Nat} {w x : World} (h : w.heap.size ≤ x.heap.size) : baseOf β w ≤ baseOf β x := by
  cases β with
  | none => exact h
  | some b => exact Nat.le_refl _
/-- A world that has grown out of w: what was there below the base is as it was. -/
def ExtB (β : Option Nat) (w : World) : Type := { x : World // Below (baseOf β w) w x }
instance (β : Option Nat) (w : World) : Inhabited (ExtB β w) := ⟨⟨w, Below.refl _ _⟩⟩
theorem base_trans {β : Option Nat} {w x y : World} (h : Below (baseOf β w) w x) (h2 : Below (baseOf β x) x y) : Below (baseOf β w) w y := h.trans (h2.mono (baseOf_mono h.size))

theorem balloc' {B : Nat} {x : World} (h : B ≤ x.heap.size) (o : Obj) : Below B x (x.alloc o) := (Below.refl _ _).alloc h o

/-- A schedule that parts in two. -/
inductive Sched (α : Type) where
  | done : Sched α
  | quiet : α → Sched α → Sched α
  | one : α → Sched α → Sched α
  | two : α → Sched α → α → Sched α → Sched α
namespace Sched
def depth {α : Type} : Sched α → Nat
  | done => 0
  | quiet _ s => s.depth + 1
  | one _ s => s.depth + 1
  | two _ s _ _ => s.depth + 1
/-- What is asked of a schedule (see Mono). -/
def ok (md : Region.Mode) (ops : Array Oper) : Sched Nat → Array Bool → Bool
  | done, listed => (Region.ready md ops listed).isEmpty
  | quiet i s, listed => (match ops[i]? with | some o => quietKind o | none => false) && (Region.ready md ops listed).contains i && Region.free md ops listed i && ok md ops s (listed.setIfInBounds i true)
  | one i s, listed => (Region.ready md ops listed == [i]) && ok md ops s (listed.setIfInBounds i true)
  | two i s j t, listed => (Region.ready md ops listed == [i, j]) && (s.depth == t.depth) && ok md ops s (listed.setIfInBounds i true) && ok md ops t (listed.setIfInBounds j true)
def under (n : Nat) : Sched Nat → Bool
  | done => true
  | quiet i s => decide (i < n) && under n s
  | one i s => decide (i < n) && under n s
  | two i s j t => decide (i < n) && under n s && (decide (j < n) && under n t)
def picked (ops : List Oper) : Sched Nat → Sched Oper
  | done => done
  | quiet i s => quiet ((ops[i]?).getD default) (picked ops s)
  | one i s => one ((ops[i]?).getD default) (picked ops s)
  | two i s j t => two ((ops[i]?).getD default) (picked ops s) ((ops[j]?).getD default) (picked ops t)
/-- The walk in the schedule's order. -/
def walk (P : Program) (β : Option Nat) (ops : Array Oper) (Q : Exit → Act → World → Prop) : Sched Oper → Act → World → Prop
  | done, a, w => Q .normal a w
  | quiet o s, a, w => if Region.wanted o (yielded ops a.tmps) = true then o.quiet P a (fun x => ∃ e : ExtB β w, x = e.val) (fun a' => walk P β ops Q s a' w) else walk P β ops Q s (a.put o.dst undef) w
  | one o s, a, w => if Region.wanted o (yielded ops a.tmps) = true then o.wp P a w (fun a' w' => Below (baseOf β w) w w' ∧ walk P β ops Q s a' w') Q else walk P β ops Q s (a.put o.dst undef) w
  | two o s o' s', a, w => (if Region.wanted o (yielded ops a.tmps) = true then o.wp P a w (fun a' w' => Below (baseOf β w) w w' ∧ walk P β ops Q s a' w') Q else walk P β ops Q s (a.put o.dst undef) w) ∧
      (if Region.wanted o' (yielded ops a.tmps) = true then o'.wp P a w (fun a' w' => Below (baseOf β w) w w' ∧ walk P β ops Q s' a' w') Q else walk P β ops Q s' (a.put o'.dst undef) w)

section
variable {P : Program} {β : Option Nat} {ops : Array Oper} {Q : Exit → Act → World → Prop} {md : Region.Mode}

theorem step_sound {ops : List Oper} {i fuel : Nat} {s : Sched Nat} {listed : Array Bool} {a : Act} {w : World} (hi : i < ops.length)
    (ih : ∀ (a : Act) (w : World), walk P β ops.toArray Q (picked ops s) a w → wpAnyH P md ops.toArray Q (fun x => Below (baseOf β w) w x) fuel (listed.setIfInBounds i true) a w)
    (h : if Region.wanted ((ops[i]?).getD default) (yielded ops.toArray a.tmps) = true then ((ops[i]?).getD default).wp P a w (fun a' w' => Below (baseOf β w) w w' ∧ walk P β ops.toArray Q (picked ops s) a' w') Q
      else walk P β ops.toArray Q (picked ops s) (a.put ((ops[i]?).getD default).dst undef) w) :
    wpOp P ops.toArray Q i (fun a' w' => Below (baseOf β w) w w' ∧ wpAnyH P md ops.toArray Q (fun x => Below (baseOf β w) w x) fuel (listed.setIfInBounds i true) a' w') a w := by
  have e : (ops[i]?).getD default = ops[i] := by simp [hi]
  have ho : ops.toArray[i]? = some ops[i] := by simp [hi]
  rw [e] at h
  unfold wpOp
  simp only [ho]
  split at h
  · rename_i hw
    rw [if_pos hw]
    refine .inl (Oper.wp_mono (fun a' w' h' => ⟨h'.1, ?_⟩) h)
    exact wpAnyH_mono (fun x hx => base_trans h'.1 hx) _ _ _ _ (ih _ _ h'.2)
  · rename_i hw
    rw [if_neg hw]
    exact ⟨Below.refl _ _, ih _ _ h⟩

theorem walk_sound {ops : List Oper} (hs : Region.noSelect ops.toArray = true) (hQ : ∀ c a d v w, Q (.panic c) (Act.put a d v) w → Q (.panic c) a w) :
    ∀ (s : Sched Nat) (listed : Array Bool) (a : Act) (w : World), ok md ops.toArray s listed = true → under ops.length s = true → walk P β ops.toArray Q (picked ops s) a w → wpAnyH P md ops.toArray Q (fun x => Below (baseOf β w) w x) s.depth listed a w := by
  intro s
  induction s with
  | done =>
    intro listed a w hB _ h
    exact ⟨by simpa [ok] using hB, h⟩
  | quiet i s ih =>
    intro listed a w hB hu h
    simp only [under, Bool.and_eq_true, decide_eq_true_eq] at hu
    have e : (ops[i]?).getD default = ops[i] := by simp [hu.1]
    have ho : ops.toArray[i]? = some ops[i] := by simp [hu.1]
    simp only [ok, ho, Bool.and_eq_true] at hB
    obtain ⟨⟨⟨hk, hr⟩, hf⟩, hB'⟩ := hB
    simp only [picked, walk, e] at h
    split at h
    · rename_i hw
      obtain ⟨v, hv, hn⟩ := h
      refine wpAnyH_take ho hs hf hr (fun c a w h => hQ c a _ _ w h) (.inl ⟨hw, fun x hx => ?_⟩) (Below.refl _ _) (ih _ _ _ hB' hu.2 hn)
      have hq := hv x ⟨⟨x, hx⟩, rfl⟩
      unfold Oper.quietAt at hq
      generalize hr : (execOp a.eval ops[i]).run P x = r at hq
      cases r with
      | halt y w' => simp only [Oper.quietUpon] at hq
      | ok n w' =>
        obtain ⟨u, rfl⟩ := value_of_kind hk hr
        simp only [Oper.quietUpon] at hq
        obtain ⟨rfl, rfl⟩ := hq
        rfl
    · rename_i hw
      exact wpAnyH_take ho hs hf hr (fun c a w h => hQ c a _ _ w h) (.inr ⟨by simpa using hw, rfl⟩) (Below.refl _ _) (ih _ _ _ hB' hu.2 h)
  | one i s ih =>
    intro listed a w hB hu h
    simp only [under, Bool.and_eq_true, decide_eq_true_eq] at hu
    simp only [ok, Bool.and_eq_true, beq_iff_eq] at hB
    simp only [picked, walk] at h
    refine wpAnyH_all hB.1 (by simp) (fun j hj => ?_)
    obtain rfl : j = i := by simpa using hj
    exact step_sound hu.1 (fun a w h => ih _ _ _ hB.2 hu.2 h) h
  | two i s j t ihs iht =>
    intro listed a w hB hu h
    simp only [under, Bool.and_eq_true, decide_eq_true_eq] at hu
    simp only [ok, Bool.and_eq_true, beq_iff_eq] at hB
    simp only [picked, walk] at h
    refine wpAnyH_all hB.1.1.1 (by simp) (fun k hk => ?_)
    rcases List.mem_cons.1 hk with rfl | hk
    · exact step_sound hu.1.1 (fun a w h => ihs _ _ _ hB.1.2 hu.1.2 h) h.1
    · obtain rfl : k = j := by simpa using hk
      refine step_sound hu.2.1 (fun a w h => ?_) h.2
      rw [hB.1.1.2]
      exact iht _ _ _ hB.2 hu.2.2 h

/-- THE BEGINNING, for a region that is written out. -/
theorem wp_region_tree (β : Option Nat) {id : Nat} {ops : List Oper} {a : Act} {w : World} (s : Sched Nat) (hm : P.follows .mixedOrders = true)
    (hs : (Region.noSelect ops.toArray && (s.depth == ops.toArray.size) && ok .any ops.toArray s (Array.replicate ops.toArray.size false) && under ops.length s) = true)
    (hQ : ∀ c a d v w, Q (.panic c) (Act.put a d v) w → Q (.panic c) a w) (h : walk P β ops.toArray Q (picked ops s) a w.drew) : (Code.region id ops.toArray true).wp P Q a w := by
  simp only [Bool.and_eq_true, beq_iff_eq] at hs
  refine wp_region_held (S := fun x => Below (baseOf β w.drew) w.drew x) hm ?_
  have := walk_sound (md := .any) hs.1.1.1 hQ s _ a w.drew hs.1.2 hs.2 h
  rw [hs.1.1.2] at this
  exact this

theorem walk_done {a : Act} {w : World} (h : Q .normal a w) : walk P β ops Q .done a w := h
theorem walk_skip_quiet {s : Sched Oper} {o : Oper} {a : Act} {w : World} (hw : Region.wanted o (yielded ops a.tmps) = false) (h : walk P β ops Q s (a.put o.dst undef) w) : walk P β ops Q (.quiet o s) a w := by
  simp only [walk]; rw [if_neg (by rw [hw]; exact Bool.false_ne_true)]; exact h
theorem walk_skip_one {s : Sched Oper} {o : Oper} {a : Act} {w : World} (hw : Region.wanted o (yielded ops a.tmps) = false) (h : walk P β ops Q s (a.put o.dst undef) w) : walk P β ops Q (.one o s) a w := by
  simp only [walk]; rw [if_neg (by rw [hw]; exact Bool.false_ne_true)]; exact h
theorem walk_quiet {s : Sched Oper} {o : Oper} {a : Act} {w : World} (hw : Region.wanted o (yielded ops a.tmps) = true)
    (h : ∀ K : Act → Prop, (∀ a', walk P β ops Q s a' w → K a') → o.quiet P a (fun x => ∃ e : ExtB β w, x = e.val) K) : walk P β ops Q (.quiet o s) a w := by
  simp only [walk]; rw [if_pos hw]; exact h _ fun _ h => h
theorem walk_one {s : Sched Oper} {o : Oper} {a : Act} {w : World} (hw : Region.wanted o (yielded ops a.tmps) = true)
    (h : ∀ K : Act → World → Prop, (∀ a' w', Below (baseOf β w) w w' → walk P β ops Q s a' w' → K a' w') → o.wp P a w K Q) : walk P β ops Q (.one o s) a w := by
  simp only [walk]; rw [if_pos hw]; exact h _ fun _ _ h1 h2 => ⟨h1, h2⟩
theorem walk_two {s t : Sched Oper} {o o' : Oper} {a : Act} {w : World} (h1 : walk P β ops Q (.one o s) a w) (h2 : walk P β ops Q (.one o' t) a w) : walk P β ops Q (.two o s o' t) a w := by
  simp only [walk] at h1 h2 ⊢; exact ⟨h1, h2⟩
end
attribute [irreducible] walk
end Sched
end Go.Proofs.Ytfbkdabnbddgpaa
