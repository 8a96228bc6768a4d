/- The landed tree: all its nodes, the place of an ID among them by halving. Conditions: nodes by rising ID, no more than 2^40. (Merged of 11 texts.) -/
import Derived.Test.YtjpjdkdbgjipnaaGreatDoorU12
import Derived.Test.YtjpjdkdbgjipnaaGreatDoorU46
import Derived.Test.YtjpjdkdbgjipnaaGreatDoorU42
import Derived.Test.YtjpjdkdbgjipnaaGreatDoorU7
import Derived.Test.YtjpjdkdbgjipnaaGreatDoorU6
import Derived.Deep.OwnRows
namespace Go.Proofs.YtjpjdkdbgjipnaaGreatDoor
open Go.RowKit
def baseOf : Option Nat → World → Nat
 | none, w => w.heap.size
 | some b, _ => b
theorem yy440 {β : Option Nat} {w x : World} (h : w.heap.size ≤ x.heap.size) : baseOf β w ≤ baseOf β x := by
 cases β with
 | none => exact h
 | some b => exact Nat.le_refl _
def ExtB (β : Option Nat) (w : World) : Type := { x : World // Below (baseOf β w) w x }
instance (β : Option Nat) (w : World) : Inhabited (ExtB β w) := ⟨⟨w, Below.refl _ _⟩⟩
theorem yy502 {β : Option Nat} {w x y : World} (h : Below (baseOf β w) w x) (h2 : Below (baseOf β x) x y) : Below (baseOf β w) w y := h.trans (h2.mono (yy440 h.size))
theorem yy405 {B : Nat} {x : World} (h : B ≤ x.heap.size) (o : Obj) : Below B x (x.alloc o) := (Below.refl _ _).alloc h o
inductive Sched (α : Type) where
 | done : Sched α
 | quiet : α → Sched α → Sched α
 | one : α → Sched α → Sched α
 | two : α → Sched α → α → Sched α → Sched α
namespace Sched
def depth {α : Type} : Sched α → Nat
 | done => 0
 | quiet _ s => s.depth + 1
 | one _ s => s.depth + 1
 | two _ s _ _ => s.depth + 1
def ok (md : Region.Mode) (ops : Array Oper) : Sched Nat → Array Bool → Bool
 | done, listed => (Region.ready md ops listed).isEmpty
 | quiet i s, listed => (match ops[i]? with | some o => yy119 o | none => false) && (Region.ready md ops listed).contains i && Region.free md ops listed i && ok md ops s (listed.setIfInBounds i true)
 | one i s, listed => (Region.ready md ops listed == [i]) && ok md ops s (listed.setIfInBounds i true)
 | two i s j t, listed => (Region.ready md ops listed == [i, j]) && (s.depth == t.depth) && ok md ops s (listed.setIfInBounds i true) && ok md ops t (listed.setIfInBounds j true)
def under (n : Nat) : Sched Nat → Bool
 | done => true
 | quiet i s => decide (i < n) && under n s
 | one i s => decide (i < n) && under n s
 | two i s j t => decide (i < n) && under n s && (decide (j < n) && under n t)
def picked (ops : List Oper) : Sched Nat → Sched Oper
 | done => done
 | quiet i s => quiet ((ops[i]?).getD default) (picked ops s)
 | one i s => one ((ops[i]?).getD default) (picked ops s)
 | two i s j t => two ((ops[i]?).getD default) (picked ops s) ((ops[j]?).getD default) (picked ops t)
def walk (P : Program) (β : Option Nat) (ops : Array Oper) (Q : Exit → Act → World → Prop) : Sched Oper → Act → World → Prop
 | done, a, w => Q .normal a w
 | quiet o s, a, w => if Region.wanted o (yielded ops a.tmps) = true then o.quiet P a (fun x => ∃ e : ExtB β w, x = e.val) (fun a' => walk P β ops Q s a' w) else walk P β ops Q s (a.put o.dst undef) w
 | one o s, a, w => if Region.wanted o (yielded ops a.tmps) = true then o.wp P a w (fun a' w' => Below (baseOf β w) w w' ∧ walk P β ops Q s a' w') Q else walk P β ops Q s (a.put o.dst undef) w
 | two o s o' s', a, w => (if Region.wanted o (yielded ops a.tmps) = true then o.wp P a w (fun a' w' => Below (baseOf β w) w w' ∧ walk P β ops Q s a' w') Q else walk P β ops Q s (a.put o.dst undef) w) ∧
   (if Region.wanted o' (yielded ops a.tmps) = true then o'.wp P a w (fun a' w' => Below (baseOf β w) w w' ∧ walk P β ops Q s' a' w') Q else walk P β ops Q s' (a.put o'.dst undef) w)
section
variable {P : Program} {β : Option Nat} {ops : Array Oper} {Q : Exit → Act → World → Prop} {md : Region.Mode}
theorem yy220 {ops : List Oper} {i fuel : Nat} {s : Sched Nat} {listed : Array Bool} {a : Act} {w : World} (hi : i < ops.length)
  (ih : ∀ (a : Act) (w : World), walk P β ops.toArray Q (picked ops s) a w → wpAnyH P md ops.toArray Q (fun x => Below (baseOf β w) w x) fuel (listed.setIfInBounds i true) a w)
  (h : if Region.wanted ((ops[i]?).getD default) (yielded ops.toArray a.tmps) = true then ((ops[i]?).getD default).wp P a w (fun a' w' => Below (baseOf β w) w w' ∧ walk P β ops.toArray Q (picked ops s) a' w') Q
   else walk P β ops.toArray Q (picked ops s) (a.put ((ops[i]?).getD default).dst undef) w) :
  wpOp P ops.toArray Q i (fun a' w' => Below (baseOf β w) w w' ∧ wpAnyH P md ops.toArray Q (fun x => Below (baseOf β w) w x) fuel (listed.setIfInBounds i true) a' w') a w := by
 have e : (ops[i]?).getD default = ops[i] := by simp [hi]
 have ho : ops.toArray[i]? = some ops[i] := by simp [hi]
 rw [e] at h
 unfold wpOp
 simp only [ho]
 split at h
 ·rename_i hw
  rw [if_pos hw]
  refine .inl (Oper.wp_mono (fun a' w' h' => ⟨h'.1, ?_⟩) h)
  exact yy92 (fun x hx => yy502 h'.1 hx) _ _ _ _ (ih _ _ h'.2)
 ·rename_i hw
  rw [if_neg hw]
  exact ⟨Below.refl _ _, ih _ _ h⟩
theorem yy503 {ops : List Oper} (hs : Region.noSelect ops.toArray = true) (hQ : ∀ c a d v w, Q (.panic c) (Act.put a d v) w → Q (.panic c) a w) :
  ∀ (s : Sched Nat) (listed : Array Bool) (a : Act) (w : World), ok md ops.toArray s listed = true → under ops.length s = true → walk P β ops.toArray Q (picked ops s) a w → wpAnyH P md ops.toArray Q (fun x => Below (baseOf β w) w x) s.depth listed a w := by
 intro s
 induction s with
 | done =>
  intro listed a w hB _ h
  exact ⟨by simpa [ok] using hB, h⟩
 | quiet i s ih =>
  intro listed a w hB hu h
  simp only [under, Bool.and_eq_true, decide_eq_true_eq] at hu
  have e : (ops[i]?).getD default = ops[i] := by simp [hu.1]
  have ho : ops.toArray[i]? = some ops[i] := by simp [hu.1]
  simp only [ok, ho, Bool.and_eq_true] at hB
  obtain ⟨⟨⟨hk, hr⟩, hf⟩, hB'⟩ := hB
  simp only [picked, walk, e] at h
  split at h
  ·rename_i hw
   obtain ⟨v, hv, hn⟩ := h
   refine wpAnyH_take ho hs hf hr (fun c a w h => hQ c a _ _ w h) (.inl ⟨hw, fun x hx => ?_⟩) (Below.refl _ _) (ih _ _ _ hB' hu.2 hn)
   have hq := hv x ⟨⟨x, hx⟩, rfl⟩
   unfold Oper.quietAt at hq
   generalize hr : (execOp a.eval ops[i]).run P x = r at hq
   cases r with
   | halt y w' => simp only [Oper.quietUpon] at hq
   | ok n w' =>
    obtain ⟨u, rfl⟩ := yy86 hk hr
    simp only [Oper.quietUpon] at hq
    obtain ⟨rfl, rfl⟩ := hq
    rfl
  ·rename_i hw
   exact wpAnyH_take ho hs hf hr (fun c a w h => hQ c a _ _ w h) (.inr ⟨by simpa using hw, rfl⟩) (Below.refl _ _) (ih _ _ _ hB' hu.2 h)
 | one i s ih =>
  intro listed a w hB hu h
  simp only [under, Bool.and_eq_true, decide_eq_true_eq] at hu
  simp only [ok, Bool.and_eq_true, beq_iff_eq] at hB
  simp only [picked, walk] at h
  refine wpAnyH_all hB.1 (by simp) (fun j hj => ?_)
  obtain rfl : j = i := by simpa using hj
  exact yy220 hu.1 (fun a w h => ih _ _ _ hB.2 hu.2 h) h
 | two i s j t ihs iht =>
  intro listed a w hB hu h
  simp only [under, Bool.and_eq_true, decide_eq_true_eq] at hu
  simp only [ok, Bool.and_eq_true, beq_iff_eq] at hB
  simp only [picked, walk] at h
  refine wpAnyH_all hB.1.1.1 (by simp) (fun k hk => ?_)
  rcases List.mem_cons.1 hk with rfl | hk
  ·exact yy220 hu.1.1 (fun a w h => ihs _ _ _ hB.1.2 hu.1.2 h) h.1
  ·obtain rfl : k = j := by simpa using hk
   refine yy220 hu.2.1 (fun a w h => ?_) h.2
   rw [hB.1.1.2]
   exact iht _ _ _ hB.2 hu.2.2 h
theorem yy589 (β : Option Nat) {id : Nat} {ops : List Oper} {a : Act} {w : World} (s : Sched Nat) (hm : P.follows .mixedOrders = true)
  (hs : (Region.noSelect ops.toArray && (s.depth == ops.toArray.size) && ok .any ops.toArray s (Array.replicate ops.toArray.size false) && under ops.length s) = true)
  (hQ : ∀ c a d v w, Q (.panic c) (Act.put a d v) w → Q (.panic c) a w) (h : walk P β ops.toArray Q (picked ops s) a w.drew) : (Code.region id ops.toArray true).wp P Q a w := by
 simp only [Bool.and_eq_true, beq_iff_eq] at hs
 refine wp_region_held (S := fun x => Below (baseOf β w.drew) w.drew x) hm ?_
 have := yy503 (md := .any) hs.1.1.1 hQ s _ a w.drew hs.1.2 hs.2 h
 rw [hs.1.1.2] at this
 exact this
theorem walk_done {a : Act} {w : World} (h : Q .normal a w) : walk P β ops Q .done a w := h
theorem yy568 {s : Sched Oper} {o : Oper} {a : Act} {w : World} (hw : Region.wanted o (yielded ops a.tmps) = false) (h : walk P β ops Q s (a.put o.dst undef) w) : walk P β ops Q (.quiet o s) a w := by
 simp only [walk]; rw [if_neg (by rw [hw]; exact Bool.false_ne_true)]; exact h
theorem yy733 {s : Sched Oper} {o : Oper} {a : Act} {w : World} (hw : Region.wanted o (yielded ops a.tmps) = true)
  (h : ∀ K : Act → Prop, (∀ a', walk P β ops Q s a' w → K a') → o.quiet P a (fun x => ∃ e : ExtB β w, x = e.val) K) : walk P β ops Q (.quiet o s) a w := by
 simp only [walk]; rw [if_pos hw]; exact h _ fun _ h => h
theorem walk_one {s : Sched Oper} {o : Oper} {a : Act} {w : World} (hw : Region.wanted o (yielded ops a.tmps) = true)
  (h : ∀ K : Act → World → Prop, (∀ a' w', Below (baseOf β w) w w' → walk P β ops Q s a' w' → K a' w') → o.wp P a w K Q) : walk P β ops Q (.one o s) a w := by
 simp only [walk]; rw [if_pos hw]; exact h _ fun _ _ h1 h2 => ⟨h1, h2⟩
theorem walk_two {s t : Sched Oper} {o o' : Oper} {a : Act} {w : World} (h1 : walk P β ops Q (.one o s) a w) (h2 : walk P β ops Q (.one o' t) a w) : walk P β ops Q (.two o s o' t) a w := by
 simp only [walk] at h1 h2 ⊢; exact ⟨h1, h2⟩
end
attribute [irreducible] walk
end Sched
def AnyW : Type := { _x : World // True }
instance : Inhabited AnyW := ⟨⟨default, trivial⟩⟩
namespace Sched
def walkF (P : Program) (ops : Array Oper) (Q : Exit → Act → World → Prop) : Sched Oper → Act → World → Prop
 | done, a, w => Q .normal a w
 | quiet o s, a, w => if Region.wanted o (yielded ops a.tmps) = true then o.quiet P a (fun x => ∃ e : AnyW, x = e.val) (fun a' => walkF P ops Q s a' w) else walkF P ops Q s (a.put o.dst undef) w
 | one o s, a, w => if Region.wanted o (yielded ops a.tmps) = true then o.wp P a w (fun a' w' => walkF P ops Q s a' w') Q else walkF P ops Q s (a.put o.dst undef) w
 | two o s o' s', a, w => (if Region.wanted o (yielded ops a.tmps) = true then o.wp P a w (fun a' w' => walkF P ops Q s a' w') Q else walkF P ops Q s (a.put o.dst undef) w) ∧
   (if Region.wanted o' (yielded ops a.tmps) = true then o'.wp P a w (fun a' w' => walkF P ops Q s' a' w') Q else walkF P ops Q s' (a.put o'.dst undef) w)
section
variable {P : Program} {ops : Array Oper} {Q : Exit → Act → World → Prop} {md : Region.Mode}
theorem yy173 {ops : List Oper} {i fuel : Nat} {s : Sched Nat} {listed : Array Bool} {a : Act} {w : World} (hi : i < ops.length)
  (ih : ∀ (a : Act) (w : World), walkF P ops.toArray Q (picked ops s) a w → wpAnyH P md ops.toArray Q (fun _ => True) fuel (listed.setIfInBounds i true) a w)
  (h : if Region.wanted ((ops[i]?).getD default) (yielded ops.toArray a.tmps) = true then ((ops[i]?).getD default).wp P a w (fun a' w' => walkF P ops.toArray Q (picked ops s) a' w') Q
   else walkF P ops.toArray Q (picked ops s) (a.put ((ops[i]?).getD default).dst undef) w) :
  wpOp P ops.toArray Q i (fun a' w' => True ∧ wpAnyH P md ops.toArray Q (fun _ => True) fuel (listed.setIfInBounds i true) a' w') a w := by
 have e : (ops[i]?).getD default = ops[i] := by simp [hi]
 have ho : ops.toArray[i]? = some ops[i] := by simp [hi]
 rw [e] at h
 unfold wpOp
 simp only [ho]
 split at h
 ·rename_i hw
  rw [if_pos hw]
  exact .inl (Oper.wp_mono (fun a' w' h' => ⟨trivial, ih _ _ h'⟩) h)
 ·rename_i hw
  rw [if_neg hw]
  exact ⟨trivial, ih _ _ h⟩
theorem yy441 {ops : List Oper} (hs : Region.noSelect ops.toArray = true) (hQ : ∀ c a d v w, Q (.panic c) (Act.put a d v) w → Q (.panic c) a w) :
  ∀ (s : Sched Nat) (listed : Array Bool) (a : Act) (w : World), ok md ops.toArray s listed = true → under ops.length s = true → walkF P ops.toArray Q (picked ops s) a w → wpAnyH P md ops.toArray Q (fun _ => True) s.depth listed a w := by
 intro s
 induction s with
 | done =>
  intro listed a w hB _ h
  exact ⟨by simpa [ok] using hB, h⟩
 | quiet i s ih =>
  intro listed a w hB hu h
  simp only [under, Bool.and_eq_true, decide_eq_true_eq] at hu
  have e : (ops[i]?).getD default = ops[i] := by simp [hu.1]
  have ho : ops.toArray[i]? = some ops[i] := by simp [hu.1]
  simp only [ok, ho, Bool.and_eq_true] at hB
  obtain ⟨⟨⟨hk, hr⟩, hf⟩, hB'⟩ := hB
  simp only [picked, walkF, e] at h
  split at h
  ·rename_i hw
   obtain ⟨v, hv, hn⟩ := h
   refine wpAnyH_take ho hs hf hr (fun c a w h => hQ c a _ _ w h) (.inl ⟨hw, fun x hx => ?_⟩) trivial (ih _ _ _ hB' hu.2 hn)
   have hq := hv x ⟨⟨x, hx⟩, rfl⟩
   unfold Oper.quietAt at hq
   generalize hr : (execOp a.eval ops[i]).run P x = r at hq
   cases r with
   | halt y w' => simp only [Oper.quietUpon] at hq
   | ok n w' =>
    obtain ⟨u, rfl⟩ := yy86 hk hr
    simp only [Oper.quietUpon] at hq
    obtain ⟨rfl, rfl⟩ := hq
    rfl
  ·rename_i hw
   exact wpAnyH_take ho hs hf hr (fun c a w h => hQ c a _ _ w h) (.inr ⟨by simpa using hw, rfl⟩) trivial (ih _ _ _ hB' hu.2 h)
 | one i s ih =>
  intro listed a w hB hu h
  simp only [under, Bool.and_eq_true, decide_eq_true_eq] at hu
  simp only [ok, Bool.and_eq_true, beq_iff_eq] at hB
  simp only [picked, walkF] at h
  refine wpAnyH_all hB.1 (by simp) (fun j hj => ?_)
  obtain rfl : j = i := by simpa using hj
  exact yy173 hu.1 (fun a w h => ih _ _ _ hB.2 hu.2 h) h
 | two i s j t ihs iht =>
  intro listed a w hB hu h
  simp only [under, Bool.and_eq_true, decide_eq_true_eq] at hu
  simp only [ok, Bool.and_eq_true, beq_iff_eq] at hB
  simp only [picked, walkF] at h
  refine wpAnyH_all hB.1.1.1 (by simp) (fun k hk => ?_)
  rcases List.mem_cons.1 hk with rfl | hk
  ·exact yy173 hu.1.1 (fun a w h => ihs _ _ _ hB.1.2 hu.1.2 h) h.1
  ·obtain rfl : k = j := by simpa using hk
   refine yy173 hu.2.1 (fun a w h => ?_) h.2
   rw [hB.1.1.2]
   exact iht _ _ _ hB.2 hu.2.2 h
theorem yy590 {id : Nat} {ops : List Oper} {a : Act} {w : World} (s : Sched Nat) (hm : P.follows .mixedOrders = true)
  (hs : (Region.noSelect ops.toArray && (s.depth == ops.toArray.size) && ok .any ops.toArray s (Array.replicate ops.toArray.size false) && under ops.length s) = true)
  (hQ : ∀ c a d v w, Q (.panic c) (Act.put a d v) w → Q (.panic c) a w) (h : walkF P ops.toArray Q (picked ops s) a w.drew) : (Code.region id ops.toArray true).wp P Q a w := by
 simp only [Bool.and_eq_true, beq_iff_eq] at hs
 refine wp_region_held (S := fun _ => True) hm ?_
 have := yy441 (md := .any) hs.1.1.1 hQ s _ a w.drew hs.1.2 hs.2 h
 rw [hs.1.1.2] at this
 exact this
theorem yy734 {a : Act} {w : World} (h : Q .normal a w) : walkF P ops Q .done a w := h
theorem yy504 {s : Sched Oper} {o : Oper} {a : Act} {w : World} (hw : Region.wanted o (yielded ops a.tmps) = false) (h : walkF P ops Q s (a.put o.dst undef) w) : walkF P ops Q (.quiet o s) a w := by
 simp only [walkF]; rw [if_neg (by rw [hw]; exact Bool.false_ne_true)]; exact h
theorem yy720 {s : Sched Oper} {o : Oper} {a : Act} {w : World} (hw : Region.wanted o (yielded ops a.tmps) = true)
  (h : ∀ K : Act → Prop, (∀ a', walkF P ops Q s a' w → K a') → o.quiet P a (fun x => ∃ e : AnyW, x = e.val) K) : walkF P ops Q (.quiet o s) a w := by
 simp only [walkF]; rw [if_pos hw]; exact h _ fun _ h => h
theorem walkF_one {s : Sched Oper} {o : Oper} {a : Act} {w : World} (hw : Region.wanted o (yielded ops a.tmps) = true)
  (h : ∀ K : Act → World → Prop, (∀ a' w', walkF P ops Q s a' w' → K a' w') → o.wp P a w K Q) : walkF P ops Q (.one o s) a w := by
 simp only [walkF]; rw [if_pos hw]; exact h _ fun _ _ h2 => h2
theorem walkF_two {s t : Sched Oper} {o o' : Oper} {a : Act} {w : World} (h1 : walkF P ops Q (.one o s) a w) (h2 : walkF P ops Q (.one o' t) a w) : walkF P ops Q (.two o s o' t) a w := by
 simp only [walkF] at h1 h2 ⊢; exact ⟨h1, h2⟩
end
attribute [irreducible] walkF
end Sched
end Go.Proofs.YtjpjdkdbgjipnaaGreatDoor
namespace Go.Proofs.YtjpjdkdbgjipnaaGreatDoor
open Go.RowKit Go.Deep
theorem yy508 {l : List Nat} (h : ¬ ∃ vs, V l vs) : cps l = [] := by
 unfold cps
 rw [dif_neg h]
theorem cps_le (l : List Nat) : (cps l).length ≤ l.length := by
 by_cases h : ∃ vs, V l vs
 ·obtain ⟨vs, h⟩ := h
  rw [cps_of h]
  exact h.length_le
 ·rw [yy508 h]
  exact Nat.zero_le _
set_option maxRecDepth 100000 in
theorem yy349 (l : List Nat) (hb : ∀ x ∈ l, x < 256) (hl : l.length ≤ 1099511627776) (w : World) :
  Calls Tryz.prog 49 #[.string (bstr l)] w fun e w' => e = .returned (.int .i64 (((cps l).length : Nat) : Int)) ∧ Below w.heap.size w w' := by
 have HP := xh (yy105 l hb hl w)
 have HC := cps_le l
 have hcb : (cps l).length ≤ 1099511627776 := by omega
 clear HC
 go_enter Tryz.func49, Tryz.ntmps49
 go_wp2_with fail
 refine HP.out.mono ?_
 rintro e w1 ⟨⟨ws, hv, A, c, rfl, _⟩ | ⟨hn, rfl⟩, hbel⟩
 ·rw [yy200]
  have HV := xh (cps_of hv)
  clear hv
  go_wp2
  go_ret
  exact ⟨by rw [HV.out]; rfl, hbel⟩
 ·have HV := xh (yy508 hn)
  clear hn
  go_wp2
  go_ret
  exact ⟨by rw [HV.out]; rfl, hbel⟩
noncomputable def rTotal (l : List NodeV) : Nat := (l.map fun y => (cps y.text).length).sum
attribute [irreducible] rTotal
def rUp (l : List NodeV) (parent id : Int) : Int := if parent = 0 then 0 else match rFind l parent with
 | none => 5
 | some k => if ((l[k]?).getD default).dir = false then 8 else if 0 < id ∧ yy645 l parent id = true then 10 else 0
def rPlace (l : List NodeV) (parent : Int) (name : List Nat) (id : Int) : Int :=
 if rUp l parent id = 0 then (if 0 ≤ rChild l parent name ∧ rChild l parent name ≠ id then 6 else 0) else rUp l parent id
attribute [irreducible] rUp rPlace
open Classical in
noncomputable def dErr (t : List Nat) (l : List CompV) : Nat := if rCheck l ≠ 0 then rCheck l else if ¬ ∃ vs, V t vs then 2 else if ((cps t).length : Int) ≠ rBase l then 11 else 0
noncomputable def dTxt (t : List Nat) (l : List CompV) : List Nat := if dErr t l = 0 then (doRun (cps t) l).2 else []
end Go.Proofs.YtjpjdkdbgjipnaaGreatDoor
namespace Go.Proofs.YtjpjdkdbgjipnaaGreatDoor
def rAt (l : List NodeV) (id : Int) : Nat := (l.takeWhile fun y => decide (y.id < id)).length
def yy735 (a : ActV) : NodeV := ⟨a.id, a.parent, a.name, a.dir, []⟩
def IdOk (id : Int) : Prop := 1 ≤ id ∧ id ≤ 1099511627776
open Classical in
noncomputable def rDo (l : List NodeV) (a : ActV) : List NodeV × Int :=
 if a.kind = 1 then
  if ¬ (IdOk a.id ∧ IsName a.name) then (l, 1)
  else if rFind l a.id ≠ none then (l, 6)
  else if rPlace l a.parent a.name 0 ≠ 0 then (l, rPlace l a.parent a.name 0)
  else if 100 ≤ l.length then (l, 4)
  else (l.take (rAt l a.id) ++ yy735 a :: l.drop (rAt l a.id), 0)
 else if a.kind = 2 then match rFind l a.id with
  | none => (l, 5)
  | some k => if ∃ y ∈ l, y.parent = a.id then (l, 9) else (l.take k ++ l.drop (k + 1), 0)
 else if a.kind = 3 then
  if ¬ IsName a.name then (l, 1) else match rFind l a.id with
  | none => (l, 5)
  | some k => if rPlace l a.parent a.name a.id ≠ 0 then (l, rPlace l a.parent a.name a.id)
   else (l.set k { (l[k]?).getD default with parent := a.parent, name := a.name }, 0)
 else if a.kind = 4 then match rFind l a.id with
  | none => (l, 5)
  | some k => if ((l[k]?).getD default).dir = true then (l, 8)
   else if dErr ((l[k]?).getD default).text a.ops ≠ 0 then (l, (dErr ((l[k]?).getD default).text a.ops : Int))
   else if 10000 < rTotal (l.set k { (l[k]?).getD default with text := dTxt ((l[k]?).getD default).text a.ops }) then (l, 4)
   else (l.set k { (l[k]?).getD default with text := dTxt ((l[k]?).getD default).text a.ops }, 0)
 else (l, 1)
section
variable {l : List NodeV} {a : ActV}
end
attribute [irreducible] rDo rAt
end Go.Proofs.YtjpjdkdbgjipnaaGreatDoor
namespace Go.Proofs.YtjpjdkdbgjipnaaGreatDoor
open Go.RowKit Go.Deep
end Go.Proofs.YtjpjdkdbgjipnaaGreatDoor
namespace Go.Proofs.YtjpjdkdbgjipnaaGreatDoor
end Go.Proofs.YtjpjdkdbgjipnaaGreatDoor
namespace Go.Proofs.YtjpjdkdbgjipnaaGreatDoor
open Go.RowKit Go.Deep
end Go.Proofs.YtjpjdkdbgjipnaaGreatDoor
