/- The document's own SameAct. Condition: no slice and no text is longer than memory. (Merged of 7 texts.) -/
import Derived.Test.YtjpjdkdbgjipnaaDoorV4
import Derived.Test.YtjpjdkdbgjipnaaDoorV47
import Derived.Test.YtjpjdkdbgjipnaaDoorV44
import Derived.Deep.DeepAppendWide
import Derived.Laws.OwnMore
import Derived.Deep.AppendLies
import Derived.Test.YtjpjdkdbgjipnaaDoorV45
namespace Go.Proofs.YtjpjdkdbgjipnaaDoor
open Go.RowKit
def baseOf : Option Nat → World → Nat
 | none, w => w.heap.size
 | some b, _ => b
def ExtB (β : Option Nat) (w : World) : Type := { x : World // Below (baseOf β w) w x }
instance (β : Option Nat) (w : World) : Inhabited (ExtB β w) := ⟨⟨w, Below.refl _ _⟩⟩
inductive Sched (α : Type) where
 | done : Sched α
 | quiet : α → Sched α → Sched α
 | one : α → Sched α → Sched α
 | two : α → Sched α → α → Sched α → Sched α
namespace Sched
def depth {α : Type} : Sched α → Nat
 | done => 0
 | quiet _ s => s.depth + 1
 | one _ s => s.depth + 1
 | two _ s _ _ => s.depth + 1
def ok (md : Region.Mode) (ops : Array Oper) : Sched Nat → Array Bool → Bool
 | done, listed => (Region.ready md ops listed).isEmpty
 | quiet i s, listed => (match ops[i]? with | some o => yy113 o | none => false) && (Region.ready md ops listed).contains i && Region.free md ops listed i && ok md ops s (listed.setIfInBounds i true)
 | one i s, listed => (Region.ready md ops listed == [i]) && ok md ops s (listed.setIfInBounds i true)
 | two i s j t, listed => (Region.ready md ops listed == [i, j]) && (s.depth == t.depth) && ok md ops s (listed.setIfInBounds i true) && ok md ops t (listed.setIfInBounds j true)
def under (n : Nat) : Sched Nat → Bool
 | done => true
 | quiet i s => decide (i < n) && under n s
 | one i s => decide (i < n) && under n s
 | two i s j t => decide (i < n) && under n s && (decide (j < n) && under n t)
def picked (ops : List Oper) : Sched Nat → Sched Oper
 | done => done
 | quiet i s => quiet ((ops[i]?).getD default) (picked ops s)
 | one i s => one ((ops[i]?).getD default) (picked ops s)
 | two i s j t => two ((ops[i]?).getD default) (picked ops s) ((ops[j]?).getD default) (picked ops t)
def walk (P : Program) (β : Option Nat) (ops : Array Oper) (Q : Exit → Act → World → Prop) : Sched Oper → Act → World → Prop
 | done, a, w => Q .normal a w
 | quiet o s, a, w => if Region.wanted o (yielded ops a.tmps) = true then o.quiet P a (fun x => ∃ e : ExtB β w, x = e.val) (fun a' => walk P β ops Q s a' w) else walk P β ops Q s (a.put o.dst undef) w
 | one o s, a, w => if Region.wanted o (yielded ops a.tmps) = true then o.wp P a w (fun a' w' => Below (baseOf β w) w w' ∧ walk P β ops Q s a' w') Q else walk P β ops Q s (a.put o.dst undef) w
 | two o s o' s', a, w => (if Region.wanted o (yielded ops a.tmps) = true then o.wp P a w (fun a' w' => Below (baseOf β w) w w' ∧ walk P β ops Q s a' w') Q else walk P β ops Q s (a.put o.dst undef) w) ∧
   (if Region.wanted o' (yielded ops a.tmps) = true then o'.wp P a w (fun a' w' => Below (baseOf β w) w w' ∧ walk P β ops Q s' a' w') Q else walk P β ops Q s' (a.put o'.dst undef) w)
section
variable {P : Program} {β : Option Nat} {ops : Array Oper} {Q : Exit → Act → World → Prop} {md : Region.Mode}
end
attribute [irreducible] walk
end Sched
def AnyW : Type := { _x : World // True }
instance : Inhabited AnyW := ⟨⟨default, trivial⟩⟩
namespace Sched
def walkF (P : Program) (ops : Array Oper) (Q : Exit → Act → World → Prop) : Sched Oper → Act → World → Prop
 | done, a, w => Q .normal a w
 | quiet o s, a, w => if Region.wanted o (yielded ops a.tmps) = true then o.quiet P a (fun x => ∃ e : AnyW, x = e.val) (fun a' => walkF P ops Q s a' w) else walkF P ops Q s (a.put o.dst undef) w
 | one o s, a, w => if Region.wanted o (yielded ops a.tmps) = true then o.wp P a w (fun a' w' => walkF P ops Q s a' w') Q else walkF P ops Q s (a.put o.dst undef) w
 | two o s o' s', a, w => (if Region.wanted o (yielded ops a.tmps) = true then o.wp P a w (fun a' w' => walkF P ops Q s a' w') Q else walkF P ops Q s (a.put o.dst undef) w) ∧
   (if Region.wanted o' (yielded ops a.tmps) = true then o'.wp P a w (fun a' w' => walkF P ops Q s' a' w') Q else walkF P ops Q s' (a.put o'.dst undef) w)
section
variable {P : Program} {ops : Array Oper} {Q : Exit → Act → World → Prop} {md : Region.Mode}
theorem yy153 {ops : List Oper} {i fuel : Nat} {s : Sched Nat} {listed : Array Bool} {a : Act} {w : World} (hi : i < ops.length)
  (ih : ∀ (a : Act) (w : World), walkF P ops.toArray Q (picked ops s) a w → wpAnyH P md ops.toArray Q (fun _ => True) fuel (listed.setIfInBounds i true) a w)
  (h : if Region.wanted ((ops[i]?).getD default) (yielded ops.toArray a.tmps) = true then ((ops[i]?).getD default).wp P a w (fun a' w' => walkF P ops.toArray Q (picked ops s) a' w') Q
   else walkF P ops.toArray Q (picked ops s) (a.put ((ops[i]?).getD default).dst undef) w) :
  wpOp P ops.toArray Q i (fun a' w' => True ∧ wpAnyH P md ops.toArray Q (fun _ => True) fuel (listed.setIfInBounds i true) a' w') a w := by
 have e : (ops[i]?).getD default = ops[i] := by simp [hi]
 have ho : ops.toArray[i]? = some ops[i] := by simp [hi]
 rw [e] at h
 unfold wpOp
 simp only [ho]
 split at h
 ·rename_i hw
  rw [if_pos hw]
  exact .inl (Oper.wp_mono (fun a' w' h' => ⟨trivial, ih _ _ h'⟩) h)
 ·rename_i hw
  rw [if_neg hw]
  exact ⟨trivial, ih _ _ h⟩
theorem yy414 {ops : List Oper} (hs : Region.noSelect ops.toArray = true) (hQ : ∀ c a d v w, Q (.panic c) (Act.put a d v) w → Q (.panic c) a w) :
  ∀ (s : Sched Nat) (listed : Array Bool) (a : Act) (w : World), ok md ops.toArray s listed = true → under ops.length s = true → walkF P ops.toArray Q (picked ops s) a w → wpAnyH P md ops.toArray Q (fun _ => True) s.depth listed a w := by
 intro s
 induction s with
 | done =>
  intro listed a w hB _ h
  exact ⟨by simpa [ok] using hB, h⟩
 | quiet i s ih =>
  intro listed a w hB hu h
  simp only [under, Bool.and_eq_true, decide_eq_true_eq] at hu
  have e : (ops[i]?).getD default = ops[i] := by simp [hu.1]
  have ho : ops.toArray[i]? = some ops[i] := by simp [hu.1]
  simp only [ok, ho, Bool.and_eq_true] at hB
  obtain ⟨⟨⟨hk, hr⟩, hf⟩, hB'⟩ := hB
  simp only [picked, walkF, e] at h
  split at h
  ·rename_i hw
   obtain ⟨v, hv, hn⟩ := h
   refine wpAnyH_take ho hs hf hr (fun c a w h => hQ c a _ _ w h) (.inl ⟨hw, fun x hx => ?_⟩) trivial (ih _ _ _ hB' hu.2 hn)
   have hq := hv x ⟨⟨x, hx⟩, rfl⟩
   unfold Oper.quietAt at hq
   generalize hr : (execOp a.eval ops[i]).run P x = r at hq
   cases r with
   | halt y w' => simp only [Oper.quietUpon] at hq
   | ok n w' =>
    obtain ⟨u, rfl⟩ := yy92 hk hr
    simp only [Oper.quietUpon] at hq
    obtain ⟨rfl, rfl⟩ := hq
    rfl
  ·rename_i hw
   exact wpAnyH_take ho hs hf hr (fun c a w h => hQ c a _ _ w h) (.inr ⟨by simpa using hw, rfl⟩) trivial (ih _ _ _ hB' hu.2 h)
 | one i s ih =>
  intro listed a w hB hu h
  simp only [under, Bool.and_eq_true, decide_eq_true_eq] at hu
  simp only [ok, Bool.and_eq_true, beq_iff_eq] at hB
  simp only [picked, walkF] at h
  refine wpAnyH_all hB.1 (by simp) (fun j hj => ?_)
  obtain rfl : j = i := by simpa using hj
  exact yy153 hu.1 (fun a w h => ih _ _ _ hB.2 hu.2 h) h
 | two i s j t ihs iht =>
  intro listed a w hB hu h
  simp only [under, Bool.and_eq_true, decide_eq_true_eq] at hu
  simp only [ok, Bool.and_eq_true, beq_iff_eq] at hB
  simp only [picked, walkF] at h
  refine wpAnyH_all hB.1.1.1 (by simp) (fun k hk => ?_)
  rcases List.mem_cons.1 hk with rfl | hk
  ·exact yy153 hu.1.1 (fun a w h => ihs _ _ _ hB.1.2 hu.1.2 h) h.1
  ·obtain rfl : k = j := by simpa using hk
   refine yy153 hu.2.1 (fun a w h => ?_) h.2
   rw [hB.1.1.2]
   exact iht _ _ _ hB.2 hu.2.2 h
theorem yy563 {id : Nat} {ops : List Oper} {a : Act} {w : World} (s : Sched Nat) (hm : P.follows .mixedOrders = true)
  (hs : (Region.noSelect ops.toArray && (s.depth == ops.toArray.size) && ok .any ops.toArray s (Array.replicate ops.toArray.size false) && under ops.length s) = true)
  (hQ : ∀ c a d v w, Q (.panic c) (Act.put a d v) w → Q (.panic c) a w) (h : walkF P ops.toArray Q (picked ops s) a w.drew) : (Code.region id ops.toArray true).wp P Q a w := by
 simp only [Bool.and_eq_true, beq_iff_eq] at hs
 refine wp_region_held (S := fun _ => True) hm ?_
 have := yy414 (md := .any) hs.1.1.1 hQ s _ a w.drew hs.1.2 hs.2 h
 rw [hs.1.1.2] at this
 exact this
theorem yy728 {a : Act} {w : World} (h : Q .normal a w) : walkF P ops Q .done a w := h
theorem yy481 {s : Sched Oper} {o : Oper} {a : Act} {w : World} (hw : Region.wanted o (yielded ops a.tmps) = false) (h : walkF P ops Q s (a.put o.dst undef) w) : walkF P ops Q (.quiet o s) a w := by
 simp only [walkF]; rw [if_neg (by rw [hw]; exact Bool.false_ne_true)]; exact h
theorem yy714 {s : Sched Oper} {o : Oper} {a : Act} {w : World} (hw : Region.wanted o (yielded ops a.tmps) = true)
  (h : ∀ K : Act → Prop, (∀ a', walkF P ops Q s a' w → K a') → o.quiet P a (fun x => ∃ e : AnyW, x = e.val) K) : walkF P ops Q (.quiet o s) a w := by
 simp only [walkF]; rw [if_pos hw]; exact h _ fun _ h => h
theorem walkF_one {s : Sched Oper} {o : Oper} {a : Act} {w : World} (hw : Region.wanted o (yielded ops a.tmps) = true)
  (h : ∀ K : Act → World → Prop, (∀ a' w', walkF P ops Q s a' w' → K a' w') → o.wp P a w K Q) : walkF P ops Q (.one o s) a w := by
 simp only [walkF]; rw [if_pos hw]; exact h _ fun _ _ h2 => h2
theorem walkF_two {s t : Sched Oper} {o o' : Oper} {a : Act} {w : World} (h1 : walkF P ops Q (.one o s) a w) (h2 : walkF P ops Q (.one o' t) a w) : walkF P ops Q (.two o s o' t) a w := by
 simp only [walkF] at h1 h2 ⊢; exact ⟨h1, h2⟩
end
attribute [irreducible] walkF
end Sched
end Go.Proofs.YtjpjdkdbgjipnaaDoor
namespace Go.Proofs.YtjpjdkdbgjipnaaDoor
open Go.RowKit Go.Deep
def NodesC (w : World) (A : Option Addr) (c : Nat) (l : List NodeV) : Prop := yy64 w A l ∧ l.length ≤ c
theorem NodesC.below {w w' : World} {A : Option Addr} {c : Nat} {l : List NodeV} (h : NodesC w A c l) (hb : Below w.heap.size w w') : NodesC w' A c l := ⟨h.1.below hb, h.2⟩
set_option maxHeartbeats 1000000 in
set_option maxRecDepth 100000 in
theorem yy223 (A : Option Addr) (c : Nat) (l : List NodeV) (id : Int) (hl : l.length ≤ maxLen) (w : World) (hA : yy64 w A l) :
  Calls Tryd.prog 31 #[.slice A l.length c, .int .i64 id] w fun e w' => e = .returned (.int .i64 (findI (rFind l id))) ∧ w = w' := by
 unfold maxLen at hl
 have HA := xh hA; clear hA
 obtain ⟨T, HT⟩ : ∃ T, Hid (rFind l id = T) := ⟨_, xh rfl⟩
 rw [HT.out]
 go_enter Tryd.func31, Tryd.ntmps31
 go_wp2
 go_loopw [4, 5] (fun r i wr => ∃ k : Nat, k ≤ l.length ∧ r = .int .i64 0 ∧ i = .int .i64 (k : Int) ∧ wr = w ∧ Hid (∀ (j : Nat) (hj : j < l.length), j < k → l[j].id ≠ id)) (fun _ i _ => l.length - (intOf i).toNat)
 case atStart => exact ⟨0, Nat.zero_le _, rfl, rfl, rfl, xh (fun j _ h => by omega)⟩
 case round =>
  obtain ⟨k, hk, rfl, rfl, rfl, HN⟩ := hrel
  by_cases hlt : k < l.length
  ·obtain ⟨b, off, rfl, _⟩ := HA.out.form (by omega)
   have hc0 := (HA.out.at_ hlt).1
   have HE : Hid (l[k].id = id → T = some k) := fun h => by rw [← HT.out]; exact yy175 hlt h HN.out
   have HNN : Hid (l[k].id ≠ id → ∀ (j : Nat) (hj : j < l.length), j < k + 1 → l[j].id ≠ id) := fun h j hj hjk => by
    rcases Nat.lt_or_ge j k with g | g
    ·exact HN.out j hj g
    ·obtain rfl : j = k := by omega
     exact h
   generalize l[k].id = y at hc0 HE HNN
   by_cases he : y = id
   ·have HR := xh (HE.out he)
    subst he
    clear HNN HE
    go_wp2
    go_ret
    exact ⟨by rw [HR.out]; rfl, rfl⟩
   ·have hne : (y == id) = false := xn he
    have HR := xh (HNN.out he)
    clear HNN HE he
    go_wp2
    go_roundw
    case rel => exact ⟨k + 1, by omega, rfl, by go_num, trivial, HR⟩
    case measure => simp [intOf]; omega
  ·have HR : Hid (T = none) := by
    show T = none
    rw [← HT.out]
    refine yy251 fun y hy => ?_
    obtain ⟨j, hj⟩ := List.getElem?_of_mem hy
    obtain ⟨h1, h2⟩ := List.getElem?_eq_some_iff.1 hj
    rw [← h2]
    exact HN.out j h1 (by omega)
   go_wp2
   go_ret
   exact ⟨by rw [HR.out]; rfl, rfl⟩
theorem yy568 : (Tryd.prog.info? 44).map (fun i => (i.zero, i.size, i.bytes)) = some (some (.agg #[.int .i64 0, .int .i64 0, .string { data := #[] }, .bool false, .string { data := #[] }]), 5, 56) := by kernel_rfl
def OwnN (w : World) (B : Nat) (A : Option Addr) (c : Nat) (l : List NodeV) : Prop := w.ownsRow B 44 5 (.slice A l.length c) l.length (l.flatMap yy14)
theorem yy678 (l : List NodeV) : ∀ u ∈ l.flatMap yy14, u.oneCell' = true := by
 intro u hu
 obtain ⟨y, _, hy⟩ := List.mem_flatMap.1 hu
 simp [yy14] at hy
 rcases hy with rfl | rfl | rfl | rfl | rfl <;> rfl
theorem OwnN.nodes {w : World} {B c : Nat} {A : Option Addr} {l : List NodeV} (h : OwnN w B A c l) : NodesC w A c l := by
 refine ⟨yy4.of_own h, ?_⟩
 rcases h.2 with ⟨e, h0⟩ | ⟨g, cap, cur, e, _, _, hn, _⟩
 ·omega
 ·injection e with _ _ e
  omega
theorem OwnN.empty (w : World) {B : Nat} (h : B ≤ w.heap.size) : OwnN (w.alloc (.cells #[] 44)) B (some ⟨w.heap.size, 0, none⟩) 0 [] := World.ownsRow_lit w #[] 0 h (by simp [maxLen]) rfl
theorem OwnN.below {w w' : World} {B c : Nat} {A : Option Addr} {l : List NodeV} (h : OwnN w B A c l) (hb : Below w.heap.size w w') : OwnN w' B A c l := own_below h hb
theorem yy212 {w : World} (base : Nat) (t ty e : TypeId) (i : TypeInfo) (size : Nat) (ht : Tryd.prog.underlying t = some (.slice e)) (hi : Tryd.prog.info? e = some i) (v : Value) (n : Nat) (xs : List Value) (c : Nat) (hown : w.ownsRow base e size v n xs) :
  (Builtin.append_ #[t, t] ty #[v, .slice none 0 c]).run Tryd.prog w = .ok v w := by
 rcases hown.2 with ⟨rfl, rfl⟩ | ⟨g, cap, cur, rfl, _, _, hnc, _⟩
 ·simp [Builtin.append_, run_underlying ht, sizeOf, typeInfo, hi, Builtin.lenOf, Builtin.firstCells]
 ·simp [Builtin.append_, run_underlying ht, sizeOf, typeInfo, hi, Builtin.lenOf, Builtin.firstCells, hnc, storeCells]
set_option maxRecDepth 100000 in
theorem yy254 {w : World} {B c0 : Nat} {A0 : Option Addr} {out : List NodeV} (hown : OwnN w B A0 c0 out) (hB : B ≤ w.heap.size) {A : Option Addr} {m : List NodeV} (c : Nat) (hA : yy64 w A m) (hlen : out.length + m.length ≤ 1099511627776) (ty : TypeId) :
  ∃ A' c' w', (Builtin.append_ #[22, 22] ty #[.slice A0 out.length c0, .slice A m.length c]).run Tryd.prog w = .ok (.slice A' (out ++ m).length c') w' ∧ OwnN w' B A' c' (out ++ m) ∧ Below B w w' ∧ ∀ (g : Nat) (l : List NodeV), g < w.heap.size → (∀ b, A0 = some b → b.block ≠ g) → yy64 w (some ⟨g, 0, none⟩) l → yy64 w' (some ⟨g, 0, none⟩) l := by
 obtain ⟨i0, hi0, hz0, hz1, hz2⟩ := info_parts yy568
 cases A with
 | none =>
  have hm : m = [] := by
   cases m with
   | nil => rfl
   | cons y m =>
    obtain ⟨b, off, e, _⟩ := hA.form (by simp)
    cases e
  subst hm
  refine ⟨A0, c0, w, ?_, ?_, Below.refl _ _, fun _ _ _ _ h => h⟩
  ·rw [List.append_nil]
   exact yy212 B _ ty _ i0 5 Tryd.underlying22 hi0 _ _ _ c hown
  ·rw [List.append_nil]
   exact hown
 | some ad =>
  obtain ⟨v', w', hr, h2, h3, _⟩ := run_append_own_wide (P := Tryd.prog) w B 22 ty 44 i0 (.agg #[.int .i64 0, .int .i64 0, .string { data := #[] }, .bool false, .string { data := #[] }]) 5 56 Tryd.underlying22 hi0 hz0 hz1 hz2 rfl (by omega)
   _ out.length (out.flatMap yy14) hown ad m.length c (m.flatMap yy14) (yy27 yy14 5 yy20 m) (fun j u hu => by
    rcases hA with h0 | ⟨b, off, e, _, hc⟩
    ·rw [h0] at hu; cases hu
    ·injection e with e
     subst e
     rw [Go.WideShapes.add_plain]
     exact hc j u hu) (yy678 m) (by simp only [maxLen]; omega) (by omega) hB
  have e : out.flatMap yy14 ++ m.flatMap yy14 = (out ++ m).flatMap yy14 := List.flatMap_append.symm
  rw [e, ← List.length_append] at h2
  obtain ⟨A', c', rfl⟩ := own_slice h2
  refine ⟨A', c', w', hr, h2, (Below.refl B w).grown h3 hB (fun k hk => (hown.lt k hk).1), fun g l hg hne h => ?_⟩
  rcases h with h | ⟨b, off, e, hlt, hc⟩
  ·exact .inl h
  ·injection e with e
   injection e with e1 e2
   subst e1 e2
   refine .inr ⟨g, 0, rfl, Nat.lt_of_lt_of_le hlt h3.size, fun j v hj => (h3.cell_far ⟨g, 0 + j, none⟩ hlt ?_).trans (hc j v hj)⟩
   cases A0 with
   | none => intro e; cases e
   | some a =>
    intro e
    injection e with e
    exact hne a rfl e.symm
theorem yy284 {w : World} {B c0 : Nat} {A0 : Option Addr} {out : List NodeV} (hown : OwnN w B A0 c0 out) (hB : B ≤ w.heap.size) {A : Option Addr} {m : List NodeV} (c : Nat) (hA : yy64 w A m) (hlen : out.length + m.length ≤ 1099511627776) (ty : TypeId) :
  ∃ A' c' w', (Builtin.append_ #[22, 22] ty #[.slice A0 out.length c0, .slice A m.length c]).run Tryd.prog w = .ok (.slice A' (out ++ m).length c') w' ∧ OwnN w' B A' c' (out ++ m) ∧ Below B w w' := by
 obtain ⟨A', c', w', h1, h2, h3, _⟩ := yy254 hown hB c hA hlen ty
 exact ⟨A', c', w', h1, h2, h3⟩
theorem yy329 {w : World} {o : Oper} {a : Act} {K : Act → World → Prop} {Q : Exit → Act → World → Prop} (s x : Operand)
  (ho : o.op = .call { callee := .builtin .append, args := #[s, x], argTypes := #[22, 22] })
  {B c0 : Nat} {A0 : Option Addr} {out : List NodeV} (hown : OwnN w B A0 c0 out) (hB : B ≤ w.heap.size) {A : Option Addr} {m : List NodeV} (c : Nat) (hA : yy64 w A m) (hlen : out.length + m.length ≤ 1099511627776)
  (hs : a.eval s = .slice A0 out.length c0) (hx : a.eval x = .slice A m.length c)
  (hK : ∀ A' c' w', OwnN w' B A' c' (out ++ m) → Below B w w' → K (a.put o.dst (.slice A' (out ++ m).length c')) w') : o.wp Tryd.prog a w K Q := by
 obtain ⟨A', c', w', hrun, h1, h2⟩ := yy284 hown hB c hA hlen o.type
 unfold Oper.wp execOp
 simp only [ho, resolve, invoke, builtin, Sem.run_bind, Sem.run_pure, Result.andThen_ok, List.map_toArray, List.map_cons, List.map_nil, hs, hx, hrun]
 exact hK A' c' w' h1 h2
theorem yy198 {w : World} {ops : Array Oper} {rest : List Oper} {o : Oper} {a : Act} {Q : Exit → Act → World → Prop} (hgd : o.guard = none) (s x : Operand)
  (ho : o.op = .call { callee := .builtin .append, args := #[s, x], argTypes := #[22, 22] })
  {B c0 : Nat} {A0 : Option Addr} {out : List NodeV} (hown : OwnN w B A0 c0 out) (hB : B ≤ w.heap.size) {A : Option Addr} {m : List NodeV} (c : Nat) (hA : yy64 w A m) (hlen : out.length + m.length ≤ 1099511627776)
  (hs : a.eval s = .slice A0 out.length c0) (hx : a.eval x = .slice A m.length c)
  (h : ∀ A' c' w', OwnN w' B A' c' (out ++ m) → Below B w w' → wpList Tryd.prog ops Q rest (a.put o.dst (.slice A' (out ++ m).length c')) w') : wpList Tryd.prog ops Q (o :: rest) a w :=
 wpList_plain hgd fun _ hK => yy329 s x ho hown hB c hA hlen hs hx fun A' c' w' h1 h2 => hK _ _ (h A' c' w' h1 h2)
theorem yy569 {l : List NodeV} {k : Nat} (hk : k < l.length) (y : NodeV) :
  (((((l.flatMap yy14).set (k * 5) (.int .i64 y.id)).set (k * 5 + 1) (.int .i64 y.parent)).set (k * 5 + 2) (.string (bstr y.name))).set (k * 5 + 3) (.bool y.dir)).set (k * 5 + 4) (.string (bstr y.text)) = (l.set k y).flatMap yy14 := by
 have hl : (l.flatMap yy14).length = l.length * 5 := yy27 yy14 5 yy20 l
 have hl2 : ((l.set k y).flatMap yy14).length = l.length * 5 := by rw [yy27 yy14 5 yy20, List.length_set]
 apply List.ext_getElem?
 intro j
 by_cases hj : j < l.length * 5
 ·obtain ⟨i, f, hf, rfl⟩ : ∃ i f, f < 5 ∧ j = i * 5 + f := ⟨j / 5, j % 5, Nat.mod_lt _ (by omega), by omega⟩
  have hi : i < l.length := by omega
  have hi2 : i < (l.set k y).length := by rw [List.length_set]; exact hi
  rw [flat_get yy14 5 yy20 (l.set k y) i hi2 f hf]
  by_cases hik : i = k
  ·subst hik
   rw [List.getElem_set_self]
   match f, hf with
   | 0, _ => simp only [List.getElem?_set, List.length_set, hl]; simp [yy14]; omega
   | 1, _ => simp only [List.getElem?_set, List.length_set, hl]; simp [yy14]; omega
   | 2, _ => simp only [List.getElem?_set, List.length_set, hl]; simp [yy14]; omega
   | 3, _ => simp only [List.getElem?_set, List.length_set, hl]; simp [yy14]; omega
   | 4, _ => simp only [List.getElem?_set, List.length_set, hl]; simp [yy14]; omega
  ·rw [List.getElem_set_ne (fun e => hik e.symm)]
   rw [List.getElem?_set_ne (by omega), List.getElem?_set_ne (by omega), List.getElem?_set_ne (by omega), List.getElem?_set_ne (by omega), List.getElem?_set_ne (by omega), flat_get yy14 5 yy20 l i hi f hf]
 ·rw [List.getElem?_eq_none (by simp only [List.length_set, hl]; omega), List.getElem?_eq_none (by rw [hl2]; omega)]
def yy380 (w : World) (g off : Nat) (y : NodeV) : World :=
 ((((w.setCell ⟨g, off, none⟩ (.int .i64 y.id)).setCell ⟨g, off + 1, none⟩ (.int .i64 y.parent)).setCell ⟨g, off + 2, none⟩ (.string (bstr y.name))).setCell ⟨g, off + 3, none⟩ (.bool y.dir)).setCell ⟨g, off + 4, none⟩ (.string (bstr y.text))
theorem OwnN.put {w : World} {B g n c : Nat} {l : List NodeV} (h : w.ownsRow B 44 5 (.slice (some ⟨g, 0, none⟩) n c) n (l.flatMap yy14)) (hn : n = l.length) {k : Nat} (hk : k < l.length) (y : NodeV) :
  OwnN (yy380 w g (k * 5) y) B (some ⟨g, 0, none⟩) c (l.set k y) := by
 subst hn
 have h5 := ((((h.stored (k * 5) (.int .i64 y.id)).1.stored (k * 5 + 1) (.int .i64 y.parent)).1.stored (k * 5 + 2) (.string (bstr y.name))).1.stored (k * 5 + 3) (.bool y.dir)).1.stored (k * 5 + 4) (.string (bstr y.text))
 rw [yy569 hk y] at h5
 unfold OwnN yy380
 rw [List.length_set]
 exact h5.1
theorem yy570 {w : World} {B g n c : Nat} {xs : List Value} (h : w.ownsRow B 44 5 (.slice (some ⟨g, 0, none⟩) n c) n xs) {k : Nat} (hk : k < n) (y : NodeV) :
  (∃ v, w.cell? ⟨g, k * 5, none⟩ = some v) ∧ w.frozen? ⟨g, k * 5, none⟩ = false ∧
  (∃ v, (w.setCell ⟨g, k * 5, none⟩ (.int .i64 y.id)).cell? ⟨g, k * 5 + 1, none⟩ = some v) ∧ (w.setCell ⟨g, k * 5, none⟩ (.int .i64 y.id)).frozen? ⟨g, k * 5 + 1, none⟩ = false ∧
  (∃ v, ((w.setCell ⟨g, k * 5, none⟩ (.int .i64 y.id)).setCell ⟨g, k * 5 + 1, none⟩ (.int .i64 y.parent)).cell? ⟨g, k * 5 + 2, none⟩ = some v) ∧ ((w.setCell ⟨g, k * 5, none⟩ (.int .i64 y.id)).setCell ⟨g, k * 5 + 1, none⟩ (.int .i64 y.parent)).frozen? ⟨g, k * 5 + 2, none⟩ = false ∧
  (∃ v, (((w.setCell ⟨g, k * 5, none⟩ (.int .i64 y.id)).setCell ⟨g, k * 5 + 1, none⟩ (.int .i64 y.parent)).setCell ⟨g, k * 5 + 2, none⟩ (.string (bstr y.name))).cell? ⟨g, k * 5 + 3, none⟩ = some v) ∧ (((w.setCell ⟨g, k * 5, none⟩ (.int .i64 y.id)).setCell ⟨g, k * 5 + 1, none⟩ (.int .i64 y.parent)).setCell ⟨g, k * 5 + 2, none⟩ (.string (bstr y.name))).frozen? ⟨g, k * 5 + 3, none⟩ = false ∧
  (∃ v, ((((w.setCell ⟨g, k * 5, none⟩ (.int .i64 y.id)).setCell ⟨g, k * 5 + 1, none⟩ (.int .i64 y.parent)).setCell ⟨g, k * 5 + 2, none⟩ (.string (bstr y.name))).setCell ⟨g, k * 5 + 3, none⟩ (.bool y.dir)).cell? ⟨g, k * 5 + 4, none⟩ = some v) ∧ ((((w.setCell ⟨g, k * 5, none⟩ (.int .i64 y.id)).setCell ⟨g, k * 5 + 1, none⟩ (.int .i64 y.parent)).setCell ⟨g, k * 5 + 2, none⟩ (.string (bstr y.name))).setCell ⟨g, k * 5 + 3, none⟩ (.bool y.dir)).frozen? ⟨g, k * 5 + 4, none⟩ = false := by
 have h0 := (h.stored (k * 5) (.int .i64 y.id)).1
 have h1 := (h0.stored (k * 5 + 1) (.int .i64 y.parent)).1
 have h2 := (h1.stored (k * 5 + 2) (.string (bstr y.name))).1
 have h3 := (h2.stored (k * 5 + 3) (.bool y.dir)).1
 have key : ∀ {w' : World} {xs' : List Value} (h' : w'.ownsRow B 44 5 (.slice (some ⟨g, 0, none⟩) n c) n xs') (f : Nat), f < 5 → (∃ v, w'.cell? ⟨g, k * 5 + f, none⟩ = some v) ∧ w'.frozen? ⟨g, k * 5 + f, none⟩ = false := by
  intro w' xs' h' f hf
  have hj : k * 5 + f < n * 5 := by omega
  refine ⟨⟨_, (h'.cellAt (k * 5 + f) hj).trans (List.getElem?_eq_getElem (by rw [h'.1]; exact hj))⟩, h'.frozenAt _⟩
 exact ⟨(key h 0 (by omega)).1, (key h 0 (by omega)).2, (key h0 1 (by omega)).1, (key h0 1 (by omega)).2, (key h1 2 (by omega)).1, (key h1 2 (by omega)).2, (key h2 3 (by omega)).1, (key h2 3 (by omega)).2, (key h3 4 (by omega)).1, (key h3 4 (by omega)).2⟩
theorem yy571 {B : Nat} {a w : World} (h : Below B a w) {g : Nat} (hg : B ≤ g) (off : Nat) (y : NodeV) : Below B a (yy380 w g off y) := by
 unfold yy380
 exact ((((h.setCell (p := ⟨g, off, none⟩) hg _).setCell (p := ⟨g, off + 1, none⟩) hg _).setCell (p := ⟨g, off + 2, none⟩) hg _).setCell (p := ⟨g, off + 3, none⟩) hg _).setCell (p := ⟨g, off + 4, none⟩) hg _
set_option maxHeartbeats 2000000 in
set_option maxRecDepth 100000 in
theorem yy418 (A : Option Addr) (c : Nat) (l : List NodeV) {k : Nat} (hk : k < l.length) (x : NodeV) (hl : l.length ≤ 1048576) (w : World) (hA : yy64 w A l) :
  Calls Tryd.prog 49 #[.slice A l.length c, .int .i64 (k : Int), .agg (yy14 x).toArray] w fun e w' => (∃ A' c', e = .returned (.slice A' l.length c') ∧ OwnN w' w.heap.size A' c' (l.set k x)) ∧ Below w.heap.size w w' := by
 have hki : (k : Int) < (l.length : Int) := by omega
 have HA := xh hA
 clear hA
 obtain ⟨w1, HW1⟩ : ∃ x', Hid (w.alloc (.cells (yy14 x).toArray 44) = x') := ⟨_, xh rfl⟩
 have hs1 : w1.heap.size = w.heap.size + 1 := by rw [← HW1.out]; simp
 have HB1 : Hid (Below w.heap.size w w1) := by
  show Below _ _ _
  rw [← HW1.out]
  exact (Below.refl _ _).alloc (Nat.le_refl _) _
 have HX : Hid (∀ (f : Nat) (v : Value), (yy14 x)[f]? = some v → w1.cell? ⟨w.heap.size, f, none⟩ = some v) := by
  intro f v hf
  rw [← HW1.out, cell_of_row _ _ _ _ _ _ (heap_alloc_new w _)]
  simpa using hf
 have HE := xh (OwnN.empty w1 (Nat.le_refl _))
 have HA2 : Hid (yy64 (w1.alloc (.cells #[] 44)) A l) := HA.out.below (HB1.out.alloc (by omega) _)
 obtain ⟨i1, p1, n1, d1, t1⟩ := x
 simp only [yy14] at HW1 HX ⊢
 go_enter Tryd.func49, Tryd.ntmps49
 go_wp2_with (at_builtin
              rw [HW1.out]
              refine yy198 rfl (.tmp 8) (.tmp 9) rfl HE.out (by simp) c HA2.out (by simp; omega) (Eq.trans (rfl : _ = Value.slice (some ⟨w.heap.size + 1, 0, none⟩) 0 0) (by rw [hs1]; rfl)) rfl ?_
              rw [List.nil_append]
              intro A' c' w2 hown hb
              have HO := xh hown
              have HB2 : Hid (Below w1.heap.size w1 w2) := ((Below.refl _ _).alloc (Nat.le_refl _) _).trans hb
              obtain ⟨g, cap, hge, hgl, hgs⟩ := hown.form (by omega)
              injection hge with hge _ hcc
              subst hge
              have HG := xh hgl
              have y0 := (HB2.out.cell (p := ⟨w.heap.size, 0, none⟩) (by show w.heap.size < w1.heap.size; omega)).trans (HX.out 0 _ rfl)
              have y1 := (HB2.out.cell (p := ⟨w.heap.size, 1, none⟩) (by show w.heap.size < w1.heap.size; omega)).trans (HX.out 1 _ rfl)
              have y2 := (HB2.out.cell (p := ⟨w.heap.size, 2, none⟩) (by show w.heap.size < w1.heap.size; omega)).trans (HX.out 2 _ rfl)
              have y3 := (HB2.out.cell (p := ⟨w.heap.size, 3, none⟩) (by show w.heap.size < w1.heap.size; omega)).trans (HX.out 3 _ rfl)
              have y4 := (HB2.out.cell (p := ⟨w.heap.size, 4, none⟩) (by show w.heap.size < w1.heap.size; omega)).trans (HX.out 4 _ rfl)
              obtain ⟨⟨_, z0⟩, f0, ⟨_, z1⟩, f1, ⟨_, z2⟩, f2, ⟨_, z3⟩, f3, ⟨_, z4⟩, f4⟩ := yy570 HO.out hk ⟨i1, p1, n1, d1, t1⟩
              clear hown hb hgl hgs hcc)
 go_ret
 exact ⟨⟨_, _, rfl, yy34 (OwnN.put HO.out rfl hk ⟨i1, p1, n1, d1, t1⟩) (by omega)⟩, yy571 (HB1.out.trans (HB2.out.mono (by omega))) (by have := HG.out; omega) (k * 5) ⟨i1, p1, n1, d1, t1⟩⟩
noncomputable def sameB (l m : List CompV) : Bool := @decide (l = m) (Classical.propDecidable _)
theorem yy178 {l m : List CompV} (h : l = m) : sameB l m = true := by unfold sameB; exact @decide_eq_true _ (Classical.propDecidable _) h
theorem yy155 {l m : List CompV} (h : ¬ l = m) : sameB l m = false := by unfold sameB; exact @decide_eq_false _ (Classical.propDecidable _) h
set_option maxHeartbeats 2000000 in
set_option maxRecDepth 100000 in
theorem yy422 (A B : Option Addr) (ca cb : Nat) (l m : List CompV) (hl : l.length ≤ maxLen) (hm : m.length ≤ maxLen) (hgl : ∀ y ∈ l, y.Good) (hgm : ∀ y ∈ m, y.Good) (w : World) (hA : yy6 w A l) (hB : yy6 w B m) :
  Calls Tryd.prog 65 #[.slice A l.length ca, .slice B m.length cb] w fun e w' => e = .returned (.bool (sameB l m)) ∧ Below w.heap.size w w' := by
 unfold maxLen at hl hm
 have HA := xh hA; clear hA
 have HB := xh hB; clear hB
 have HGL := xh hgl; clear hgl
 have HGM := xh hgm; clear hgm
 obtain ⟨T, HT⟩ : ∃ T, Hid (sameB l m = T) := ⟨_, xh rfl⟩
 rw [HT.out]
 by_cases hlen : l.length = m.length
 ·rw [← hlen]
  have HLEN := xh hlen
  clear hlen
  go_enter Tryd.func65, Tryd.ntmps65
  go_wp2
  go_loopw [5] (fun i wr => ∃ k : Nat, k ≤ l.length ∧ i = .int .i64 k ∧ l.take k = m.take k ∧ Below w.heap.size w wr) (fun i _ => l.length - (intOf i).toNat)
  case atStart => exact ⟨0, Nat.zero_le _, rfl, rfl, Below.refl _ _⟩
  case round =>
   obtain ⟨k, hk, rfl, htk, hbel⟩ := hrel
   have HBEL := xh hbel; clear hbel
   have HTK := xh htk; clear htk
   by_cases hlt : k < l.length
   ·have hlt2 : k < m.length := by have := HLEN.out; omega
    obtain ⟨b1, o1, rfl, _⟩ := HA.out.form (by omega)
    obtain ⟨b2, o2, rfl, _⟩ := HB.out.form (by omega)
    obtain ⟨x0, x1, x2⟩ := (HA.out.below HBEL.out).at_ hlt
    obtain ⟨y0, y1, y2⟩ := (HB.out.below HBEL.out).at_ hlt2
    have HYES : Hid (l[k] = m[k] → l.take (k + 1) = m.take (k + 1)) := fun h => by rw [List.take_succ_eq_append_getElem hlt, List.take_succ_eq_append_getElem hlt2, HTK.out, h]
    have HNO : Hid (l[k] ≠ m[k] → T = false) := fun h => by rw [← HT.out]; exact yy155 fun e => h (by subst e; rfl)
    have HG1 := xh (HGL.out l[k] (List.getElem_mem hlt))
    have HG2 := xh (HGM.out m[k] (List.getElem_mem hlt2))
    generalize l[k] = c at x0 x1 x2 HYES HNO HG1
    generalize m[k] = d at y0 y1 y2 HYES HNO HG2
    clear hlt2
    obtain ⟨kd, n, tx⟩ := c
    obtain ⟨kd2, n2, tx2⟩ := d
    simp only at x0 x1 x2 y0 y1 y2
    by_cases e0 : kd = kd2
    ·subst e0
     by_cases e1 : n = n2
     ·subst e1
      by_cases e2 : tx = tx2
      ·subst e2
       go_wp2_with fail
       go_region
       go_wp2
       go_roundw
       case rel => exact ⟨k + 1, by omega, by go_num, HYES.out trivial, HBEL.out.drew⟩
       case measure => simp [intOf]; omega
      ·have HF : Hid (T = false) := HNO.out fun h => e2 (by injection h)
       have g2 : ((bstr tx).toList == (bstr tx2).toList) = false := bstr_neq fun h => e2 (bstr_inj _ _ HG1.out.2.2.1 HG2.out.2.2.1 h)
       have g2' : ((bstr tx).toList != (bstr tx2).toList) = true := by rw [bne, g2]; rfl
       clear e2
       go_wp2_with fail
       go_region
       go_wp2
       go_ret
       exact ⟨by rw [HF.out]; rfl, HBEL.out.drew⟩
     ·have HF : Hid (T = false) := HNO.out fun h => e1 (by injection h)
      have g1 : (n == n2) = false := xn e1
      have g1' : (n != n2) = true := bne_iff_ne.2 e1
      clear e1
      go_wp2_with fail
      go_region
      go_wp2
      go_ret
      exact ⟨by rw [HF.out]; rfl, HBEL.out.drew⟩
    ·have HF : Hid (T = false) := HNO.out fun h => e0 (by injection h)
     have g0 : (kd == kd2) = false := xn e0
     have g0' : (kd != kd2) = true := bne_iff_ne.2 e0
     clear e0
     go_wp2_with fail
     go_region
     go_wp2
     go_ret
     exact ⟨by rw [HF.out]; rfl, HBEL.out.drew⟩
   ·have HF : Hid (T = true) := by
     show T = true
     rw [← HT.out]
     apply yy178
     have := HTK.out
     rwa [List.take_of_length_le (by omega), List.take_of_length_le (by have := HLEN.out; omega)] at this
    go_wp2
    go_ret
    exact ⟨by rw [HF.out]; rfl, HBEL.out⟩
 ·have HF : Hid (T = false) := by show T = false; rw [← HT.out]; exact yy155 fun h => hlen (by rw [h])
  have g0 : ((l.length : Int) == (m.length : Int)) = false := xn (by omega)
  have g0' : ((l.length : Int) != (m.length : Int)) = true := bne_iff_ne.2 (by omega)
  clear hlen
  go_enter Tryd.func65, Tryd.ntmps65
  go_wp2
  go_ret
  exact ⟨by rw [HF.out]; rfl, Below.refl _ _⟩
def keepL (n : Int) : List CompV := if n < 1 then [] else [⟨1, n, []⟩]
set_option maxHeartbeats 2000000 in
set_option maxRecDepth 100000 in
theorem yy148 (a b : ActV) (ha : a.Good) (hb : b.Good) (w : World) (hA : yy6 w a.opsA a.ops) (hB : yy6 w b.opsA b.ops) :
  Calls Tryd.prog 42 #[.agg (yy0 a).toArray, .agg (yy0 b).toArray] w fun e w' => e = .returned (.bool (sameA a b)) ∧ Below w.heap.size w w' := by
 have GS := xh (fun w' (h : Below w.heap.size w w') => yy422 a.opsA b.opsA a.opsC b.opsC a.ops b.ops (by have := ha.2.2.2.2.2; unfold maxLen at *; omega) (by have := hb.2.2.2.2.2; unfold maxLen at *; omega) ha.2.2.2.2.1 hb.2.2.2.2.1 w' (hA.below h) (hB.below h))
 have hn := ha.2.2.2.1
 have hn2 := hb.2.2.2.1
 have hb2 := ((Below.refl w.heap.size w).alloc (Nat.le_refl _) (.cells (yy0 a).toArray 46)).alloc (by simp) (.cells (yy0 b).toArray 46)
 clear ha hb hA hB
 obtain ⟨k, i, p, n, d, A, c, o⟩ := a
 obtain ⟨k2, i2, p2, n2, d2, A2, c2, o2⟩ := b
 simp only at GS hn hn2
 by_cases h0 : k = k2
 ·subst h0
  by_cases h1 : i = i2
  ·subst h1
   by_cases h2 : p = p2
   ·subst h2
    by_cases h3 : n = n2
    ·subst h3
     by_cases h4 : d = d2
     ·subst h4
      rw [show sameA ⟨k, i, p, n, d, A, c, o⟩ ⟨k, i, p, n, d, A2, c2, o2⟩ = sameB o o2 from by
       by_cases h : o = o2
       ·rw [yy178 h]; exact yy137 (by simp [aKey, h])
       ·rw [yy155 h]; exact yy59 (fun e => h (by simpa [aKey] using e))]
      generalize sameB o o2 = T at GS
      have eT : (if T = true then T else false) = T := by cases T <;> rfl
      unfold yy0 at hb2 ⊢
      simp only at hb2
      go_enter Tryd.func42, Tryd.ntmps42
      go_wp2_with fail
      refine (GS.out _ hb2).mono ?_
      rintro e w2 ⟨rfl, hb3⟩
      go_wp2
      go_ret
      exact ⟨rfl, hb2.trans (hb3.mono hb2.size)⟩
     ·skip
      rw [yy59 fun e => h4 (by simp only [aKey, Prod.mk.injEq] at e; exact e.2.2.2.2.1)]
      have g : (d == d2) = false := xn h4
      clear h4 GS
      unfold yy0 at hb2 ⊢
      go_enter Tryd.func42, Tryd.ntmps42
      go_wp2
      go_ret
      exact ⟨rfl, hb2⟩
    ·skip
     rw [yy59 fun e => h3 (by simp only [aKey, Prod.mk.injEq] at e; exact e.2.2.2.1)]
     have g : ((bstr n).toList == (bstr n2).toList) = false := bstr_neq fun h => h3 (bstr_inj _ _ hn.1 hn2.1 h)
     clear h3 GS
     unfold yy0 at hb2 ⊢
     go_enter Tryd.func42, Tryd.ntmps42
     go_wp2
     go_ret
     exact ⟨rfl, hb2⟩
   ·skip
    rw [yy59 fun e => h2 (by simp only [aKey, Prod.mk.injEq] at e; exact e.2.2.1)]
    have g : (p == p2) = false := xn h2
    clear h2 GS
    unfold yy0 at hb2 ⊢
    go_enter Tryd.func42, Tryd.ntmps42
    go_wp2
    go_ret
    exact ⟨rfl, hb2⟩
  ·skip
   rw [yy59 fun e => h1 (by simp only [aKey, Prod.mk.injEq] at e; exact e.2.1)]
   have g : (i == i2) = false := xn h1
   clear h1 GS
   unfold yy0 at hb2 ⊢
   go_enter Tryd.func42, Tryd.ntmps42
   go_wp2
   go_ret
   exact ⟨rfl, hb2⟩
 ·skip
  rw [yy59 fun e => h0 (by simp only [aKey, Prod.mk.injEq] at e; exact e.1)]
  have g : (k == k2) = false := xn h0
  clear h0 GS
  unfold yy0 at hb2 ⊢
  go_enter Tryd.func42, Tryd.ntmps42
  go_wp2
  go_ret
  exact ⟨rfl, hb2⟩
end Go.Proofs.YtjpjdkdbgjipnaaDoor
