/- A statement whose order Go leaves open, walked once, in one order: each operation taken ahead of others yields the same in every world that keeps what the relation says, and each of the others, which come up alone, keeps it. No condition beyond those that each lemma states. (Merged of 2 texts.) -/
import Derived.OrdersHeld
import Derived.Deep.Quiet
import Derived.BigQuiet
import Derived.Below
namespace Go.Proofs.YtjpjdkdbgjipnaaGreatDoor
open Go.RowKit
def Ext (w : World) : Type := { x : World // Below w.heap.size w x }
instance (w : World) : Inhabited (Ext w) := ⟨⟨w, Below.refl _ _⟩⟩
theorem Ext.cell {w : World} {a : Addr} {v : Value} (h : w.cell? a = some v) (e : Ext w) : e.val.cell? a = some v :=
 (e.property.cell (World.block_lt_of_cell? w a h)).trans h
def yy119 (o : Oper) : Bool :=
 match o.op with
 | .move _ | .assign _ | .pick _ _ _ | .load _ _ | .binOp _ _ _ _ _ | .unOp _ _ _ | .convert _ _ _ | .slice _ _ _ _ _ | .fieldAddr _ _ _ | .field _ _ _ | .indexAddr _ _ _ | .index _ _ _ | .extract _ _ => true
 | .call c => match c.callee with | .builtin .len => true | .builtin .cap => true | _ => false
 | _ => false
theorem yy303 {α : Type} {P : Program} {s : Sem α} {f : α → Value} {w w' : World} {n : Next} (h : (do pure (Next.value (f (← s))) : Sem Next).run P w = .ok n w') : ∃ u, n = .value u := by
 simp only [Sem.run_bind, Result.andThen] at h
 split at h
 ·simp only [Sem.run_pure] at h
  injection h with h1 h2
  exact ⟨_, h1.symm⟩
 ·cases h
theorem yy86 {P : Program} {ρ : Operand → Value} {o : Oper} (hk : yy119 o = true) {w w' : World} {n : Next} (h : (execOp ρ o).run P w = .ok n w') : ∃ u, n = .value u := by
 obtain ⟨dst, op, type, pos, after, guard⟩ := o
 cases op <;> simp only [yy119] at hk <;> simp only [execOp] at h
 case move x => simp only [Sem.run_pure] at h; injection h with h1 h2; exact ⟨_, h1.symm⟩
 case assign x => simp only [Sem.run_pure] at h; injection h with h1 h2; exact ⟨_, h1.symm⟩
 case call c =>
  obtain ⟨callee, args, argTypes⟩ := c
  cases callee with
  | builtin b =>
   cases b <;> first
    | exact (Bool.false_ne_true hk).elim
    | (simp only [resolve, invoke, builtin, Sem.run_bind, Sem.run_pure, Result.andThen] at h
       split at h
       ·injection h with h1 h2
        exact ⟨_, h1.symm⟩
       ·cases h)
  | invoke _ _ => exact (Bool.false_ne_true hk).elim
  | value _ => exact (Bool.false_ne_true hk).elim
 all_goals first
  | exact (Bool.false_ne_true hk).elim
  | exact yy303 (f := id) h
  | exact yy303 (f := fun b => if b = true then _ else _) h
def yy184 (md : Region.Mode) (ops : Array Oper) : List (Nat × Bool) → Array Bool → Bool
 | [], listed => (Region.ready md ops listed).isEmpty
 | (i, true) :: s, listed => (match ops[i]? with | some o => yy119 o | none => false) && (Region.ready md ops listed).contains i && Region.free md ops listed i && yy184 md ops s (listed.setIfInBounds i true)
 | (i, false) :: s, listed => (Region.ready md ops listed == [i]) && yy184 md ops s (listed.setIfInBounds i true)
def wpM (P : Program) (ops : Array Oper) (Q : Exit → Act → World → Prop) : List (Nat × Bool) → Act → World → Prop
 | [], a, w => Q .normal a w
 | (i, true) :: s, a, w => ∃ o, ops[i]? = some o ∧ if Region.wanted o (yielded ops a.tmps) = true then o.quiet P a (fun x => ∃ e : Ext w, x = e.val) (fun a' => wpM P ops Q s a' w) else wpM P ops Q s (a.put o.dst undef) w
 | (i, false) :: s, a, w => ∃ o, ops[i]? = some o ∧ if Region.wanted o (yielded ops a.tmps) = true then o.wp P a w (fun a' w' => Below w.heap.size w w' ∧ wpM P ops Q s a' w') Q else wpM P ops Q s (a.put o.dst undef) w
section
variable {P : Program} {ops : Array Oper} {Q : Exit → Act → World → Prop} {md : Region.Mode}
theorem yy92 {S S' : World → Prop} (hS : ∀ w, S w → S' w) : ∀ (fuel : Nat) (listed : Array Bool) (a : Act) (w : World), wpAnyH P md ops Q S fuel listed a w → wpAnyH P md ops Q S' fuel listed a w
 | 0, _, _, _, h => h
 | fuel + 1, _, _, _, h => ⟨h.1, fun i hi => wpOp_mono (fun a' w' h' => ⟨hS _ h'.1, yy92 hS fuel _ a' w' h'.2⟩) (h.2 i hi)⟩
theorem yy580 (hs : Region.noSelect ops = true) (hQ : ∀ c a d v w, Q (.panic c) (Act.put a d v) w → Q (.panic c) a w) :
  ∀ (s : List (Nat × Bool)) (listed : Array Bool) (a : Act) (w : World), yy184 md ops s listed = true → wpM P ops Q s a w → wpAnyH P md ops Q (fun x => Below w.heap.size w x) s.length listed a w := by
 intro s
 induction s with
 | nil =>
  intro listed a w hB h
  exact ⟨by simpa [yy184] using hB, h⟩
 | cons x s ih =>
  intro listed a w hB h
  obtain ⟨i, b⟩ := x
  cases b with
  | true =>
   obtain ⟨o, ho, h⟩ := h
   simp only [yy184, ho, Bool.and_eq_true] at hB
   obtain ⟨⟨⟨hk, hr⟩, hf⟩, hB'⟩ := hB
   split at h
   ·rename_i hw
    obtain ⟨v, hv, hn⟩ := h
    refine wpAnyH_take ho hs hf hr (fun c a w h => hQ c a _ _ w h) (.inl ⟨hw, fun x hx => ?_⟩) (Below.refl _ _) (ih _ _ _ hB' hn)
    have hq := hv x ⟨⟨x, hx⟩, rfl⟩
    unfold Oper.quietAt at hq
    generalize hr : (execOp a.eval o).run P x = r at hq
    cases r with
    | halt y w' => simp only [Oper.quietUpon] at hq
    | ok n w' =>
     obtain ⟨u, rfl⟩ := yy86 hk hr
     simp only [Oper.quietUpon] at hq
     obtain ⟨rfl, rfl⟩ := hq
     rfl
   ·rename_i hw
    exact wpAnyH_take ho hs hf hr (fun c a w h => hQ c a _ _ w h) (.inr ⟨by simpa using hw, rfl⟩) (Below.refl _ _) (ih _ _ _ hB' h)
  | false =>
   obtain ⟨o, ho, h⟩ := h
   simp only [yy184, Bool.and_eq_true, beq_iff_eq] at hB
   refine wpAnyH_all hB.1 (by simp) (fun j hj => ?_)
   obtain rfl : j = i := by simpa using hj
   unfold wpOp
   simp only [ho]
   split at h
   ·rename_i hw
    rw [if_pos hw]
    refine .inl (Oper.wp_mono (fun a' w' h' => ⟨h'.1, ?_⟩) h)
    refine yy92 (fun x hx => h'.1.trans (hx.mono h'.1.size)) _ _ _ _ (ih _ _ _ hB.2 h'.2)
   ·rename_i hw
    rw [if_neg hw]
    exact ⟨Below.refl _ _, ih _ _ _ hB.2 h⟩
theorem yy275 {id : Nat} {a : Act} {w : World} (s : List (Nat × Bool)) (hm : P.follows .mixedOrders = true) (hs : (Region.noSelect ops && (s.length == ops.size) && yy184 .any ops s (Array.replicate ops.size false)) = true)
  (hQ : ∀ c a d v w, Q (.panic c) (Act.put a d v) w → Q (.panic c) a w) (h : wpM P ops Q s a w.drew) : (Code.region id ops true).wp P Q a w := by
 simp only [Bool.and_eq_true, beq_iff_eq] at hs
 refine wp_region_held (S := fun x => Below w.drew.heap.size w.drew x) hm ?_
 have := yy580 (md := .any) hs.1.1 hQ s _ a w.drew hs.2 h
 rw [hs.1.2] at this
 exact this
def wpL (P : Program) (ops : Array Oper) (Q : Exit → Act → World → Prop) : List (Oper × Bool) → Act → World → Prop
 | [], a, w => Q .normal a w
 | (o, true) :: s, a, w => if Region.wanted o (yielded ops a.tmps) = true then o.quiet P a (fun x => ∃ e : Ext w, x = e.val) (fun a' => wpL P ops Q s a' w) else wpL P ops Q s (a.put o.dst undef) w
 | (o, false) :: s, a, w => if Region.wanted o (yielded ops a.tmps) = true then o.wp P a w (fun a' w' => Below w.heap.size w w' ∧ wpL P ops Q s a' w') Q else wpL P ops Q s (a.put o.dst undef) w
def picked (ops : List Oper) (s : List (Nat × Bool)) : List (Oper × Bool) := s.map fun x => ((ops[x.1]?).getD default, x.2)
theorem yy104 {ops : List Oper} : ∀ (s : List (Nat × Bool)) (a : Act) (w : World), (∀ x ∈ s, x.1 < ops.length) → wpL P ops.toArray Q (picked ops s) a w → wpM P ops.toArray Q s a w
 | [], _, _, _, h => h
 | (i, true) :: s, a, w, hl, h => by
  have hi : i < ops.length := hl (i, true) (List.mem_cons_self ..)
  refine ⟨ops[i], by simp [hi], ?_⟩
  have e : (ops[i]?).getD default = ops[i] := by simp [hi]
  simp only [picked, List.map_cons, wpL, e] at h
  split at h
  ·rename_i hw
   rw [if_pos hw]
   exact Oper.quiet_mono (fun a' h' => yy104 s a' w (fun x hx => hl x (List.mem_cons_of_mem _ hx)) h') h
  ·rename_i hw
   rw [if_neg hw]
   exact yy104 s _ w (fun x hx => hl x (List.mem_cons_of_mem _ hx)) h
 | (i, false) :: s, a, w, hl, h => by
  have hi : i < ops.length := hl (i, false) (List.mem_cons_self ..)
  refine ⟨ops[i], by simp [hi], ?_⟩
  have e : (ops[i]?).getD default = ops[i] := by simp [hi]
  simp only [picked, List.map_cons, wpL, e] at h
  split at h
  ·rename_i hw
   rw [if_pos hw]
   exact Oper.wp_mono (fun a' w' h' => ⟨h'.1, yy104 s a' w' (fun x hx => hl x (List.mem_cons_of_mem _ hx)) h'.2⟩) h
  ·rename_i hw
   rw [if_neg hw]
   exact yy104 s _ w (fun x hx => hl x (List.mem_cons_of_mem _ hx)) h
theorem wp_region_lit {id : Nat} {ops : List Oper} {a : Act} {w : World} (s : List (Nat × Bool)) (hm : P.follows .mixedOrders = true)
  (hs : (Region.noSelect ops.toArray && (s.length == ops.toArray.size) && yy184 .any ops.toArray s (Array.replicate ops.toArray.size false) && s.all fun x => decide (x.1 < ops.length)) = true)
  (hQ : ∀ c a d v w, Q (.panic c) (Act.put a d v) w → Q (.panic c) a w) (h : wpL P ops.toArray Q (picked ops s) a w.drew) : (Code.region id ops.toArray true).wp P Q a w := by
 rw [Bool.and_eq_true] at hs
 exact yy275 s hm hs.1 hQ (yy104 s a w.drew (fun x hx => of_decide_eq_true (List.all_eq_true.1 hs.2 x hx)) h)
theorem yy25 {a : Act} {w : World} (h : Q .normal a w) : wpL P ops Q [] a w := h
theorem yy3 {b : Bool} {s : List (Oper × Bool)} {o : Oper} {a : Act} {w : World} (hw : Region.wanted o (yielded ops a.tmps) = false) (h : wpL P ops Q s (a.put o.dst undef) w) : wpL P ops Q ((o, b) :: s) a w := by
 cases b <;> (simp only [wpL]; rw [if_neg (by rw [hw]; exact Bool.false_ne_true)]; exact h)
theorem yy1 {s : List (Oper × Bool)} {o : Oper} {a : Act} {w : World} (hw : Region.wanted o (yielded ops a.tmps) = true)
  (h : ∀ K : Act → Prop, (∀ a', wpL P ops Q s a' w → K a') → o.quiet P a (fun x => ∃ e : Ext w, x = e.val) K) : wpL P ops Q ((o, true) :: s) a w := by
 simp only [wpL]; rw [if_pos hw]; exact h _ fun _ h => h
theorem yy11 {s : List (Oper × Bool)} {o : Oper} {a : Act} {w : World} (hw : Region.wanted o (yielded ops a.tmps) = true)
  (h : ∀ K : Act → World → Prop, (∀ a' w', Below w.heap.size w w' → wpL P ops Q s a' w' → K a' w') → o.wp P a w K Q) : wpL P ops Q ((o, false) :: s) a w := by
 simp only [wpL]; rw [if_pos hw]; exact h _ fun _ _ h1 h2 => ⟨h1, h2⟩
end
attribute [irreducible] wpL
structure Keep where
 r : World → World → Prop
 refl : ∀ w, r w w
 trans : ∀ {a b c}, r a b → r b c → r a c
def yy6 (l : List Nat) : Keep where
 r w x := w.heap.size ≤ x.heap.size ∧ ∀ k ∈ l, x.heap[k]? = w.heap[k]?
 refl _ := ⟨Nat.le_refl _, fun _ _ => rfl⟩
 trans h1 h2 := ⟨Nat.le_trans h1.1 h2.1, fun k hk => (h2.2 k hk).trans (h1.2 k hk)⟩
def ExtK (R : Keep) (w : World) : Type := { x : World // R.r w x }
instance (R : Keep) (w : World) : Inhabited (ExtK R w) := ⟨⟨w, R.refl _⟩⟩
theorem cell_of_block {w x : World} {b : Nat} (h : x.heap[b]? = w.heap[b]?) (i : Nat) : x.cell? ⟨b, i, none⟩ = w.cell? ⟨b, i, none⟩ := by simp [World.cell?, h]
theorem yy136 {g : Nat} {w x : World} (h : w.heap.size ≤ x.heap.size) (hg : x.heap[g]? = w.heap[g]?) : (yy6 [g]).r w x :=
 ⟨h, fun k hk => by rw [List.mem_singleton.1 hk]; exact hg⟩
theorem yy194 {P : Program} {C : World → Prop} {ρ : Operand → Value} {o : Oper} {x : Operand} (ho : o.op = .nilCheck x) {w : World} {v : Value} (h : Oper.quietUpon P C w v ((execOp ρ o).run P w)) : (execOp ρ o).run P w = .ok (.value v) w := by
 obtain ⟨dst, op, type, pos, after, guard⟩ := o
 simp only at ho
 subst ho
 simp only [execOp] at h ⊢
 generalize ρ x = y at h ⊢
 split at h
 ·simp [runtimePanic, Oper.quietUpon] at h
 ·simp [runtimePanic, Oper.quietUpon] at h
 ·simp [runtimePanic, Oper.quietUpon] at h
 ·revert h
  split
  ·intro h; simp [runtimePanic, Oper.quietUpon] at h
  ·rename_i t u _
   have e : Sem.run P program w = .ok P w := rfl
   simp only [Sem.run_bind, e, Result.andThen_ok]
   generalize Sem.run P (nilAhead (P.types.size + Made.depth) t u _) w = r
   intro h
   cases r with
   | halt e w' => simp only [Result.andThen, Oper.quietUpon] at h
   | ok b w' =>
    simp only [Result.andThen_ok] at h ⊢
    split at h
    ·simp [unsupported, Oper.quietUpon] at h
    ·rename_i hb
     rw [if_neg hb]
     simp only [Sem.run_pure, Oper.quietUpon] at h ⊢
     rw [h.1, h.2]
  ·intro h
   simp only [Sem.run_pure, Oper.quietUpon] at h ⊢
   rw [h.2]
 ·simp only [Sem.run_pure, Oper.quietUpon] at h ⊢
  rw [h.2]
def yy154 (o : Oper) : Bool :=
 match o.op with
 | .nilCheck _ => true
 | _ => yy119 o
theorem yy126 {P : Program} {C : World → Prop} {o : Oper} {a : Act} (hk : yy154 o = true) {w : World} {v : Value} (h : o.quietAt P a C w v) : (execOp a.eval o).run P w = .ok (.value v) w := by
 unfold Oper.quietAt at h
 by_cases hn : ∃ x, o.op = .nilCheck x
 ·obtain ⟨x, hx⟩ := hn
  exact yy194 hx h
 ·have hk' : yy119 o = true := by
   unfold yy154 at hk
   split at hk
   ·rename_i x hx
    exact (hn ⟨_, hx⟩).elim
   ·exact hk
  generalize hr : (execOp a.eval o).run P w = r at h ⊢
  cases r with
  | halt y w' => simp only [Oper.quietUpon] at h
  | ok n w' =>
   obtain ⟨u, rfl⟩ := yy86 hk' hr
   simp only [Oper.quietUpon] at h
   rw [h.1, h.2]
def yy109 (md : Region.Mode) (ops : Array Oper) : List (Nat × Bool) → Array Bool → Bool
 | [], listed => (Region.ready md ops listed).isEmpty
 | (i, true) :: s, listed => (match ops[i]? with | some o => yy154 o | none => false) && (Region.ready md ops listed).contains i && Region.free md ops listed i && yy109 md ops s (listed.setIfInBounds i true)
 | (i, false) :: s, listed => (Region.ready md ops listed == [i]) && yy109 md ops s (listed.setIfInBounds i true)
def wpK (P : Program) (R : Keep) (ops : Array Oper) (Q : Exit → Act → World → Prop) : List (Nat × Bool) → Act → World → Prop
 | [], a, w => Q .normal a w
 | (i, true) :: s, a, w => ∃ o, ops[i]? = some o ∧ if Region.wanted o (yielded ops a.tmps) = true then o.quiet P a (fun x => ∃ e : ExtK R w, x = e.val) (fun a' => wpK P R ops Q s a' w) else wpK P R ops Q s (a.put o.dst undef) w
 | (i, false) :: s, a, w => ∃ o, ops[i]? = some o ∧ if Region.wanted o (yielded ops a.tmps) = true then o.wp P a w (fun a' w' => R.r w w' ∧ wpK P R ops Q s a' w') Q else wpK P R ops Q s (a.put o.dst undef) w
section
variable {P : Program} {R : Keep} {ops : Array Oper} {Q : Exit → Act → World → Prop} {md : Region.Mode}
theorem yy596 (hs : Region.noSelect ops = true) (hQ : ∀ c a d v w, Q (.panic c) (Act.put a d v) w → Q (.panic c) a w) :
  ∀ (s : List (Nat × Bool)) (listed : Array Bool) (a : Act) (w : World), yy109 md ops s listed = true → wpK P R ops Q s a w → wpAnyH P md ops Q (fun x => R.r w x) s.length listed a w := by
 intro s
 induction s with
 | nil =>
  intro listed a w hB h
  exact ⟨by simpa [yy109] using hB, h⟩
 | cons x s ih =>
  intro listed a w hB h
  obtain ⟨i, b⟩ := x
  cases b with
  | true =>
   obtain ⟨o, ho, h⟩ := h
   simp only [yy109, ho, Bool.and_eq_true] at hB
   obtain ⟨⟨⟨hk, hr⟩, hf⟩, hB'⟩ := hB
   split at h
   ·rename_i hw
    obtain ⟨v, hv, hn⟩ := h
    refine wpAnyH_take ho hs hf hr (fun c a w h => hQ c a _ _ w h) (.inl ⟨hw, fun x hx => ?_⟩) (R.refl _) (ih _ _ _ hB' hn)
    exact yy126 hk (hv x ⟨⟨x, hx⟩, rfl⟩)
   ·rename_i hw
    exact wpAnyH_take ho hs hf hr (fun c a w h => hQ c a _ _ w h) (.inr ⟨by simpa using hw, rfl⟩) (R.refl _) (ih _ _ _ hB' h)
  | false =>
   obtain ⟨o, ho, h⟩ := h
   simp only [yy109, Bool.and_eq_true, beq_iff_eq] at hB
   refine wpAnyH_all hB.1 (by simp) (fun j hj => ?_)
   obtain rfl : j = i := by simpa using hj
   unfold wpOp
   simp only [ho]
   split at h
   ·rename_i hw
    rw [if_pos hw]
    refine .inl (Oper.wp_mono (fun a' w' h' => ⟨h'.1, ?_⟩) h)
    exact yy92 (fun x hx => R.trans h'.1 hx) _ _ _ _ (ih _ _ _ hB.2 h'.2)
   ·rename_i hw
    rw [if_neg hw]
    exact ⟨R.refl _, ih _ _ _ hB.2 h⟩
theorem yy286 (R : Keep) {id : Nat} {a : Act} {w : World} (s : List (Nat × Bool)) (hm : P.follows .mixedOrders = true) (hs : (Region.noSelect ops && (s.length == ops.size) && yy109 .any ops s (Array.replicate ops.size false)) = true)
  (hQ : ∀ c a d v w, Q (.panic c) (Act.put a d v) w → Q (.panic c) a w) (h : wpK P R ops Q s a w.drew) : (Code.region id ops true).wp P Q a w := by
 simp only [Bool.and_eq_true, beq_iff_eq] at hs
 refine wp_region_held (S := fun x => R.r w.drew x) hm ?_
 have := yy596 (md := .any) hs.1.1 hQ s _ a w.drew hs.2 h
 rw [hs.1.2] at this
 exact this
def wpH (P : Program) (R : Keep) (ops : Array Oper) (Q : Exit → Act → World → Prop) : List (Oper × Bool) → Act → World → Prop
 | [], a, w => Q .normal a w
 | (o, true) :: s, a, w => if Region.wanted o (yielded ops a.tmps) = true then o.quiet P a (fun x => ∃ e : ExtK R w, x = e.val) (fun a' => wpH P R ops Q s a' w) else wpH P R ops Q s (a.put o.dst undef) w
 | (o, false) :: s, a, w => if Region.wanted o (yielded ops a.tmps) = true then o.wp P a w (fun a' w' => R.r w w' ∧ wpH P R ops Q s a' w') Q else wpH P R ops Q s (a.put o.dst undef) w
theorem yy110 {ops : List Oper} : ∀ (s : List (Nat × Bool)) (a : Act) (w : World), (∀ x ∈ s, x.1 < ops.length) → wpH P R ops.toArray Q (picked ops s) a w → wpK P R ops.toArray Q s a w
 | [], _, _, _, h => h
 | (i, true) :: s, a, w, hl, h => by
  have hi : i < ops.length := hl (i, true) (List.mem_cons_self ..)
  refine ⟨ops[i], by simp [hi], ?_⟩
  have e : (ops[i]?).getD default = ops[i] := by simp [hi]
  simp only [picked, List.map_cons, wpH, e] at h
  split at h
  ·rename_i hw
   rw [if_pos hw]
   exact Oper.quiet_mono (fun a' h' => yy110 s a' w (fun x hx => hl x (List.mem_cons_of_mem _ hx)) h') h
  ·rename_i hw
   rw [if_neg hw]
   exact yy110 s _ w (fun x hx => hl x (List.mem_cons_of_mem _ hx)) h
 | (i, false) :: s, a, w, hl, h => by
  have hi : i < ops.length := hl (i, false) (List.mem_cons_self ..)
  refine ⟨ops[i], by simp [hi], ?_⟩
  have e : (ops[i]?).getD default = ops[i] := by simp [hi]
  simp only [picked, List.map_cons, wpH, e] at h
  split at h
  ·rename_i hw
   rw [if_pos hw]
   exact Oper.wp_mono (fun a' w' h' => ⟨h'.1, yy110 s a' w' (fun x hx => hl x (List.mem_cons_of_mem _ hx)) h'.2⟩) h
  ·rename_i hw
   rw [if_neg hw]
   exact yy110 s _ w (fun x hx => hl x (List.mem_cons_of_mem _ hx)) h
theorem yy13 (R : Keep) {id : Nat} {ops : List Oper} {a : Act} {w : World} (s : List (Nat × Bool)) (hm : P.follows .mixedOrders = true)
  (hs : (Region.noSelect ops.toArray && (s.length == ops.toArray.size) && yy109 .any ops.toArray s (Array.replicate ops.toArray.size false) && s.all fun x => decide (x.1 < ops.length)) = true)
  (hQ : ∀ c a d v w, Q (.panic c) (Act.put a d v) w → Q (.panic c) a w) (h : wpH P R ops.toArray Q (picked ops s) a w.drew) : (Code.region id ops.toArray true).wp P Q a w := by
 rw [Bool.and_eq_true] at hs
 exact yy286 R s hm hs.1 hQ (yy110 s a w.drew (fun x hx => of_decide_eq_true (List.all_eq_true.1 hs.2 x hx)) h)
theorem yy73 {a : Act} {w : World} (h : Q .normal a w) : wpH P R ops Q [] a w := h
theorem yy177 {b : Bool} {s : List (Oper × Bool)} {o : Oper} {a : Act} {w : World} (hw : Region.wanted o (yielded ops a.tmps) = false) (h : wpH P R ops Q s (a.put o.dst undef) w) : wpH P R ops Q ((o, b) :: s) a w := by
 cases b <;> (simp only [wpH]; rw [if_neg (by rw [hw]; exact Bool.false_ne_true)]; exact h)
theorem yy29 {s : List (Oper × Bool)} {o : Oper} {a : Act} {w : World} (hw : Region.wanted o (yielded ops a.tmps) = true)
  (h : ∀ K : Act → Prop, (∀ a', wpH P R ops Q s a' w → K a') → o.quiet P a (fun x => ∃ e : ExtK R w, x = e.val) K) : wpH P R ops Q ((o, true) :: s) a w := by
 simp only [wpH]; rw [if_pos hw]; exact h _ fun _ h => h
theorem yy77 {s : List (Oper × Bool)} {o : Oper} {a : Act} {w : World} (hw : Region.wanted o (yielded ops a.tmps) = true)
  (h : ∀ K : Act → World → Prop, (∀ a' w', R.r w w' → wpH P R ops Q s a' w' → K a' w') → o.wp P a w K Q) : wpH P R ops Q ((o, false) :: s) a w := by
 simp only [wpH]; rw [if_pos hw]; exact h _ fun _ _ h1 h2 => ⟨h1, h2⟩
end
attribute [irreducible] wpH
end Go.Proofs.YtjpjdkdbgjipnaaGreatDoor
