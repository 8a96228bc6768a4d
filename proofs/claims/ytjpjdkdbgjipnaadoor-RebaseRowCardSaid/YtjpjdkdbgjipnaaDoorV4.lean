/- A statement whose order Go leaves open, and that holds calls which make memory: it is enough to walk it once, in one order, if each operation taken ahead of others only reads what is there, and each call leaves what was there as it was. No condition beyond those that each lemma states. -/
import Derived.OrdersHeld
import Derived.Deep.Quiet
import Derived.BigQuiet
import Derived.Below
namespace Go.Proofs.YtjpjdkdbgjipnaaDoor
open Go.RowKit
def Ext (w : World) : Type := { x : World // Below w.heap.size w x }
instance (w : World) : Inhabited (Ext w) := ⟨⟨w, Below.refl _ _⟩⟩
theorem Ext.cell {w : World} {a : Addr} {v : Value} (h : w.cell? a = some v) (e : Ext w) : e.val.cell? a = some v :=
 (e.property.cell (World.block_lt_of_cell? w a h)).trans h
def yy113 (o : Oper) : Bool :=
 match o.op with
 | .move _ | .assign _ | .pick _ _ _ | .load _ _ | .binOp _ _ _ _ _ | .unOp _ _ _ | .convert _ _ _ | .slice _ _ _ _ _ | .fieldAddr _ _ _ | .field _ _ _ | .indexAddr _ _ _ | .index _ _ _ | .extract _ _ => true
 | .call c => match c.callee with | .builtin .len => true | .builtin .cap => true | _ => false
 | _ => false
theorem yy274 {α : Type} {P : Program} {s : Sem α} {f : α → Value} {w w' : World} {n : Next} (h : (do pure (Next.value (f (← s))) : Sem Next).run P w = .ok n w') : ∃ u, n = .value u := by
 simp only [Sem.run_bind, Result.andThen] at h
 split at h
 ·simp only [Sem.run_pure] at h
  injection h with h1 h2
  exact ⟨_, h1.symm⟩
 ·cases h
theorem yy92 {P : Program} {ρ : Operand → Value} {o : Oper} (hk : yy113 o = true) {w w' : World} {n : Next} (h : (execOp ρ o).run P w = .ok n w') : ∃ u, n = .value u := by
 obtain ⟨dst, op, type, pos, after, guard⟩ := o
 cases op <;> simp only [yy113] at hk <;> simp only [execOp] at h
 case move x => simp only [Sem.run_pure] at h; injection h with h1 h2; exact ⟨_, h1.symm⟩
 case assign x => simp only [Sem.run_pure] at h; injection h with h1 h2; exact ⟨_, h1.symm⟩
 case call c =>
  obtain ⟨callee, args, argTypes⟩ := c
  cases callee with
  | builtin b =>
   cases b <;> first
    | exact (Bool.false_ne_true hk).elim
    | (simp only [resolve, invoke, builtin, Sem.run_bind, Sem.run_pure, Result.andThen] at h
       split at h
       ·injection h with h1 h2
        exact ⟨_, h1.symm⟩
       ·cases h)
  | invoke _ _ => exact (Bool.false_ne_true hk).elim
  | value _ => exact (Bool.false_ne_true hk).elim
 all_goals first
  | exact (Bool.false_ne_true hk).elim
  | exact yy274 (f := id) h
  | exact yy274 (f := fun b => if b = true then _ else _) h
def yy162 (md : Region.Mode) (ops : Array Oper) : List (Nat × Bool) → Array Bool → Bool
 | [], listed => (Region.ready md ops listed).isEmpty
 | (i, true) :: s, listed => (match ops[i]? with | some o => yy113 o | none => false) && (Region.ready md ops listed).contains i && Region.free md ops listed i && yy162 md ops s (listed.setIfInBounds i true)
 | (i, false) :: s, listed => (Region.ready md ops listed == [i]) && yy162 md ops s (listed.setIfInBounds i true)
def wpM (P : Program) (ops : Array Oper) (Q : Exit → Act → World → Prop) : List (Nat × Bool) → Act → World → Prop
 | [], a, w => Q .normal a w
 | (i, true) :: s, a, w => ∃ o, ops[i]? = some o ∧ if Region.wanted o (yielded ops a.tmps) = true then o.quiet P a (fun x => ∃ e : Ext w, x = e.val) (fun a' => wpM P ops Q s a' w) else wpM P ops Q s (a.put o.dst undef) w
 | (i, false) :: s, a, w => ∃ o, ops[i]? = some o ∧ if Region.wanted o (yielded ops a.tmps) = true then o.wp P a w (fun a' w' => Below w.heap.size w w' ∧ wpM P ops Q s a' w') Q else wpM P ops Q s (a.put o.dst undef) w
section
variable {P : Program} {ops : Array Oper} {Q : Exit → Act → World → Prop} {md : Region.Mode}
theorem yy114 {S S' : World → Prop} (hS : ∀ w, S w → S' w) : ∀ (fuel : Nat) (listed : Array Bool) (a : Act) (w : World), wpAnyH P md ops Q S fuel listed a w → wpAnyH P md ops Q S' fuel listed a w
 | 0, _, _, _, h => h
 | fuel + 1, _, _, _, h => ⟨h.1, fun i hi => wpOp_mono (fun a' w' h' => ⟨hS _ h'.1, yy114 hS fuel _ a' w' h'.2⟩) (h.2 i hi)⟩
theorem yy556 (hs : Region.noSelect ops = true) (hQ : ∀ c a d v w, Q (.panic c) (Act.put a d v) w → Q (.panic c) a w) :
  ∀ (s : List (Nat × Bool)) (listed : Array Bool) (a : Act) (w : World), yy162 md ops s listed = true → wpM P ops Q s a w → wpAnyH P md ops Q (fun x => Below w.heap.size w x) s.length listed a w := by
 intro s
 induction s with
 | nil =>
  intro listed a w hB h
  exact ⟨by simpa [yy162] using hB, h⟩
 | cons x s ih =>
  intro listed a w hB h
  obtain ⟨i, b⟩ := x
  cases b with
  | true =>
   obtain ⟨o, ho, h⟩ := h
   simp only [yy162, ho, Bool.and_eq_true] at hB
   obtain ⟨⟨⟨hk, hr⟩, hf⟩, hB'⟩ := hB
   split at h
   ·rename_i hw
    obtain ⟨v, hv, hn⟩ := h
    refine wpAnyH_take ho hs hf hr (fun c a w h => hQ c a _ _ w h) (.inl ⟨hw, fun x hx => ?_⟩) (Below.refl _ _) (ih _ _ _ hB' hn)
    have hq := hv x ⟨⟨x, hx⟩, rfl⟩
    unfold Oper.quietAt at hq
    generalize hr : (execOp a.eval o).run P x = r at hq
    cases r with
    | halt y w' => simp only [Oper.quietUpon] at hq
    | ok n w' =>
     obtain ⟨u, rfl⟩ := yy92 hk hr
     simp only [Oper.quietUpon] at hq
     obtain ⟨rfl, rfl⟩ := hq
     rfl
   ·rename_i hw
    exact wpAnyH_take ho hs hf hr (fun c a w h => hQ c a _ _ w h) (.inr ⟨by simpa using hw, rfl⟩) (Below.refl _ _) (ih _ _ _ hB' h)
  | false =>
   obtain ⟨o, ho, h⟩ := h
   simp only [yy162, Bool.and_eq_true, beq_iff_eq] at hB
   refine wpAnyH_all hB.1 (by simp) (fun j hj => ?_)
   obtain rfl : j = i := by simpa using hj
   unfold wpOp
   simp only [ho]
   split at h
   ·rename_i hw
    rw [if_pos hw]
    refine .inl (Oper.wp_mono (fun a' w' h' => ⟨h'.1, ?_⟩) h)
    refine yy114 (fun x hx => h'.1.trans (hx.mono h'.1.size)) _ _ _ _ (ih _ _ _ hB.2 h'.2)
   ·rename_i hw
    rw [if_neg hw]
    exact ⟨Below.refl _ _, ih _ _ _ hB.2 h⟩
theorem yy247 {id : Nat} {a : Act} {w : World} (s : List (Nat × Bool)) (hm : P.follows .mixedOrders = true) (hs : (Region.noSelect ops && (s.length == ops.size) && yy162 .any ops s (Array.replicate ops.size false)) = true)
  (hQ : ∀ c a d v w, Q (.panic c) (Act.put a d v) w → Q (.panic c) a w) (h : wpM P ops Q s a w.drew) : (Code.region id ops true).wp P Q a w := by
 simp only [Bool.and_eq_true, beq_iff_eq] at hs
 refine wp_region_held (S := fun x => Below w.drew.heap.size w.drew x) hm ?_
 have := yy556 (md := .any) hs.1.1 hQ s _ a w.drew hs.2 h
 rw [hs.1.2] at this
 exact this
def wpL (P : Program) (ops : Array Oper) (Q : Exit → Act → World → Prop) : List (Oper × Bool) → Act → World → Prop
 | [], a, w => Q .normal a w
 | (o, true) :: s, a, w => if Region.wanted o (yielded ops a.tmps) = true then o.quiet P a (fun x => ∃ e : Ext w, x = e.val) (fun a' => wpL P ops Q s a' w) else wpL P ops Q s (a.put o.dst undef) w
 | (o, false) :: s, a, w => if Region.wanted o (yielded ops a.tmps) = true then o.wp P a w (fun a' w' => Below w.heap.size w w' ∧ wpL P ops Q s a' w') Q else wpL P ops Q s (a.put o.dst undef) w
def picked (ops : List Oper) (s : List (Nat × Bool)) : List (Oper × Bool) := s.map fun x => ((ops[x.1]?).getD default, x.2)
theorem yy93 {ops : List Oper} : ∀ (s : List (Nat × Bool)) (a : Act) (w : World), (∀ x ∈ s, x.1 < ops.length) → wpL P ops.toArray Q (picked ops s) a w → wpM P ops.toArray Q s a w
 | [], _, _, _, h => h
 | (i, true) :: s, a, w, hl, h => by
  have hi : i < ops.length := hl (i, true) (List.mem_cons_self ..)
  refine ⟨ops[i], by simp [hi], ?_⟩
  have e : (ops[i]?).getD default = ops[i] := by simp [hi]
  simp only [picked, List.map_cons, wpL, e] at h
  split at h
  ·rename_i hw
   rw [if_pos hw]
   exact Oper.quiet_mono (fun a' h' => yy93 s a' w (fun x hx => hl x (List.mem_cons_of_mem _ hx)) h') h
  ·rename_i hw
   rw [if_neg hw]
   exact yy93 s _ w (fun x hx => hl x (List.mem_cons_of_mem _ hx)) h
 | (i, false) :: s, a, w, hl, h => by
  have hi : i < ops.length := hl (i, false) (List.mem_cons_self ..)
  refine ⟨ops[i], by simp [hi], ?_⟩
  have e : (ops[i]?).getD default = ops[i] := by simp [hi]
  simp only [picked, List.map_cons, wpL, e] at h
  split at h
  ·rename_i hw
   rw [if_pos hw]
   exact Oper.wp_mono (fun a' w' h' => ⟨h'.1, yy93 s a' w' (fun x hx => hl x (List.mem_cons_of_mem _ hx)) h'.2⟩) h
  ·rename_i hw
   rw [if_neg hw]
   exact yy93 s _ w (fun x hx => hl x (List.mem_cons_of_mem _ hx)) h
theorem wp_region_lit {id : Nat} {ops : List Oper} {a : Act} {w : World} (s : List (Nat × Bool)) (hm : P.follows .mixedOrders = true)
  (hs : (Region.noSelect ops.toArray && (s.length == ops.toArray.size) && yy162 .any ops.toArray s (Array.replicate ops.toArray.size false) && s.all fun x => decide (x.1 < ops.length)) = true)
  (hQ : ∀ c a d v w, Q (.panic c) (Act.put a d v) w → Q (.panic c) a w) (h : wpL P ops.toArray Q (picked ops s) a w.drew) : (Code.region id ops.toArray true).wp P Q a w := by
 rw [Bool.and_eq_true] at hs
 exact yy247 s hm hs.1 hQ (yy93 s a w.drew (fun x hx => of_decide_eq_true (List.all_eq_true.1 hs.2 x hx)) h)
theorem yy39 {a : Act} {w : World} (h : Q .normal a w) : wpL P ops Q [] a w := h
theorem yy5 {b : Bool} {s : List (Oper × Bool)} {o : Oper} {a : Act} {w : World} (hw : Region.wanted o (yielded ops a.tmps) = false) (h : wpL P ops Q s (a.put o.dst undef) w) : wpL P ops Q ((o, b) :: s) a w := by
 cases b <;> (simp only [wpL]; rw [if_neg (by rw [hw]; exact Bool.false_ne_true)]; exact h)
theorem yy3 {s : List (Oper × Bool)} {o : Oper} {a : Act} {w : World} (hw : Region.wanted o (yielded ops a.tmps) = true)
  (h : ∀ K : Act → Prop, (∀ a', wpL P ops Q s a' w → K a') → o.quiet P a (fun x => ∃ e : Ext w, x = e.val) K) : wpL P ops Q ((o, true) :: s) a w := by
 simp only [wpL]; rw [if_pos hw]; exact h _ fun _ h => h
theorem yy16 {s : List (Oper × Bool)} {o : Oper} {a : Act} {w : World} (hw : Region.wanted o (yielded ops a.tmps) = true)
  (h : ∀ K : Act → World → Prop, (∀ a' w', Below w.heap.size w w' → wpL P ops Q s a' w' → K a' w') → o.wp P a w K Q) : wpL P ops Q ((o, false) :: s) a w := by
 simp only [wpL]; rw [if_pos hw]; exact h _ fun _ _ h1 h2 => ⟨h1, h2⟩
end
attribute [irreducible] wpL
end Go.Proofs.YtjpjdkdbgjipnaaDoor
