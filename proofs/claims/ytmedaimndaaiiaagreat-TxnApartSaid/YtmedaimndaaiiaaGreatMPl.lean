/- The landed txn's copied and Plain: an act with what its Kind names alone, in new memory. Conditions: texts that may be looked at. (Merged of 5 texts.) -/
import Derived.Test.YtmedaimndaaiiaaGreatMCells
import Derived.Test.YtmedaimndaaiiaaGreatMOwn
import Derived.Test.YtmedaimndaaiiaaGreatMTPush
import Derived.Test.YtmedaimndaaiiaaGreatMMono
import Derived.Test.YtmedaimndaaiiaaGreatMAlk
import Derived.Test.YtmedaimndaaiiaaGreatMTm
import Derived.Test.YtmedaimndaaiiaaGreatMTTreeOwn
/- Parts of edits, with their slice's room: no shorter than they are. No condition. -/
namespace Go.Proofs.YtmedaimndaaiiaaGreat
open Go.RowKit Go.Deep

/-- The slice with address A and capacity c holds these parts. -/
def CompsC (w : World) (A : Option Addr) (c : Nat) (l : List CompV) : Prop := CompsAt w A l ∧ l.length ≤ c
theorem CompsC.below {w w' : World} {A : Option Addr} {c : Nat} {l : List CompV} (h : CompsC w A c l) (hb : Below w.heap.size w w') : CompsC w' A c l := ⟨h.1.below hb, h.2⟩
theorem CompsC.drew {w : World} {A : Option Addr} {c : Nat} {l : List CompV} (h : CompsC w A c l) : CompsC w.drew A c l := ⟨h.1.drew, h.2⟩
theorem CompsC.of_own {w : World} {base : Nat} {A : Option Addr} {c : Nat} {l : List CompV} (h : w.ownsRow base 59 3 (.slice A l.length c) l.length (l.flatMap compCells)) : CompsC w A c l := by
  refine ⟨CellsAt.of_own h, ?_⟩
  rcases h.2 with ⟨h1, h2⟩ | ⟨g, cap, cur, h1, _, _, h2, _⟩
  · rw [h2]; exact Nat.zero_le _
  · injection h1 with _ _ h1
    rw [h1]; exact h2
end Go.Proofs.YtmedaimndaaiiaaGreat

/- append of one part, just laid, onto a row of parts that lies behind a place of the memory: told of that place alone. Condition: no more than 2^40 parts. -/
namespace Go.Proofs.YtmedaimndaaiiaaGreat
open Go.RowKit Go.Deep

theorem wpList_pushB {ops : Array Oper} {rest : List Oper} {o : Oper} {a : Act} {w : World} {Q : Exit → Act → World → Prop} (hgd : o.guard = none) (s x : Operand)
    (ho : o.op = .call { callee := .builtin .append, args := #[s, x], argTypes := #[23, 23] })
    (base : Nat) (v : Value) (out : List CompV) (cr : CompV) (hs : a.eval s = v) (hown : w.ownsRow base 59 3 v out.length (out.flatMap compCells)) (hsz : base ≤ w.heap.size)
    (hx : a.eval x = .slice (some ⟨w.heap.size, 0, none⟩) 1 1) (hlen : out.length ≤ 1099511627776)
    (h : ∀ out' A' c' w', out' = out ++ [cr] → w'.ownsRow base 59 3 (.slice A' out'.length c') out'.length (out'.flatMap compCells) → Below base w w' → wpList Tryz.prog ops Q rest (a.put o.dst (.slice A' out'.length c')) w') :
    wpList Tryz.prog ops Q (o :: rest) a (w.alloc (.cells #[.int .i64 cr.kind, .int .i64 cr.n, .string (bstr cr.text)] 59)) := by
  obtain ⟨i0, hi0, hz0, hz1, hz2⟩ := info_parts part_info
  refine wpList_append_own_wide _ hgd s x 23 ho base 59 i0 (.agg #[.int .i64 0, .int .i64 0, .string { data := #[] }]) 3 32 Tryz.underlying23 hi0 hz0 hz1 hz2 rfl (by omega) v out.length (out.flatMap compCells) hs (hown.alloc _) ⟨w.heap.size, 0, none⟩ 1 1 (compCells cr) hx rfl ?_ ?_ (by simp only [maxLen]; omega) (by omega) (by simp; omega) ?_
  · intro j u hj
    rw [Go.WideShapes.add_plain, Nat.zero_add, cell_of_row _ _ _ _ _ _ (heap_alloc_new w _)]
    simpa [compCells] using hj
  · intro u hu; simp [compCells] at hu; rcases hu with rfl | rfl | rfl <;> rfl
  intro v' w' hown' hgr _
  have e : out.flatMap compCells ++ compCells cr = (out ++ [cr]).flatMap compCells := by simp
  have hown2 : w'.ownsRow base 59 3 v' (out ++ [cr]).length ((out ++ [cr]).flatMap compCells) := by
    rw [← e, List.length_append]
    exact hown'
  obtain ⟨A', c', rfl⟩ := own_slice hown2
  exact h _ A' c' w' rfl hown2 (((Below.refl base w).alloc hsz _).grown hgr (by simp; omega) (fun k hk => (hown.lt k hk).1))
end Go.Proofs.YtmedaimndaaiiaaGreat

/- A statement whose order Go leaves open, in small: the walk parts wherever two operations may come up that look at memory or make some; nothing is asked of the worlds between. No condition beyond those that each lemma states. -/
namespace Go.Proofs.YtmedaimndaaiiaaGreat
open Go.RowKit

/-- Any world. -/
def AnyW : Type := { _x : World // True }
instance : Inhabited AnyW := ⟨⟨default, trivial⟩⟩
namespace Sched
/-- The walk in the schedule's order; what is taken ahead yields the same in any world. -/
def walkF (P : Program) (ops : Array Oper) (Q : Exit → Act → World → Prop) : Sched Oper → Act → World → Prop
  | done, a, w => Q .normal a w
  | quiet o s, a, w => if Region.wanted o (yielded ops a.tmps) = true then o.quiet P a (fun x => ∃ e : AnyW, x = e.val) (fun a' => walkF P ops Q s a' w) else walkF P ops Q s (a.put o.dst undef) w
  | one o s, a, w => if Region.wanted o (yielded ops a.tmps) = true then o.wp P a w (fun a' w' => walkF P ops Q s a' w') Q else walkF P ops Q s (a.put o.dst undef) w
  | two o s o' s', a, w => (if Region.wanted o (yielded ops a.tmps) = true then o.wp P a w (fun a' w' => walkF P ops Q s a' w') Q else walkF P ops Q s (a.put o.dst undef) w) ∧
      (if Region.wanted o' (yielded ops a.tmps) = true then o'.wp P a w (fun a' w' => walkF P ops Q s' a' w') Q else walkF P ops Q s' (a.put o'.dst undef) w)

section
variable {P : Program} {ops : Array Oper} {Q : Exit → Act → World → Prop} {md : Region.Mode}
theorem stepF_sound {ops : List Oper} {i fuel : Nat} {s : Sched Nat} {listed : Array Bool} {a : Act} {w : World} (hi : i < ops.length)
    (ih : ∀ (a : Act) (w : World), walkF P ops.toArray Q (picked ops s) a w → wpAnyH P md ops.toArray Q (fun _ => True) fuel (listed.setIfInBounds i true) a w)
    (h : if Region.wanted ((ops[i]?).getD default) (yielded ops.toArray a.tmps) = true then ((ops[i]?).getD default).wp P a w (fun a' w' => walkF P ops.toArray Q (picked ops s) a' w') Q
      else walkF P ops.toArray Q (picked ops s) (a.put ((ops[i]?).getD default).dst undef) w) :
    wpOp P ops.toArray Q i (fun a' w' => True ∧ wpAnyH P md ops.toArray Q (fun _ => True) fuel (listed.setIfInBounds i true) a' w') a w := by
  have e : (ops[i]?).getD default = ops[i] := by simp [hi]
  have ho : ops.toArray[i]? = some ops[i] := by simp [hi]
  rw [e] at h
  unfold wpOp
  simp only [ho]
  split at h
  · rename_i hw
    rw [if_pos hw]
    exact .inl (Oper.wp_mono (fun a' w' h' => ⟨trivial, ih _ _ h'⟩) h)
  · rename_i hw
    rw [if_neg hw]
    exact ⟨trivial, ih _ _ h⟩

theorem walkF_sound {ops : List Oper} (hs : Region.noSelect ops.toArray = true) (hQ : ∀ c a d v w, Q (.panic c) (Act.put a d v) w → Q (.panic c) a w) :
    ∀ (s : Sched Nat) (listed : Array Bool) (a : Act) (w : World), ok md ops.toArray s listed = true → under ops.length s = true → walkF P ops.toArray Q (picked ops s) a w → wpAnyH P md ops.toArray Q (fun _ => True) s.depth listed a w := by
  intro s
  induction s with
  | done =>
    intro listed a w hB _ h
    exact ⟨by simpa [ok] using hB, h⟩
  | quiet i s ih =>
    intro listed a w hB hu h
    simp only [under, Bool.and_eq_true, decide_eq_true_eq] at hu
    have e : (ops[i]?).getD default = ops[i] := by simp [hu.1]
    have ho : ops.toArray[i]? = some ops[i] := by simp [hu.1]
    simp only [ok, ho, Bool.and_eq_true] at hB
    obtain ⟨⟨⟨hk, hr⟩, hf⟩, hB'⟩ := hB
    simp only [picked, walkF, e] at h
    split at h
    · rename_i hw
      obtain ⟨v, hv, hn⟩ := h
      refine wpAnyH_take ho hs hf hr (fun c a w h => hQ c a _ _ w h) (.inl ⟨hw, fun x hx => ?_⟩) trivial (ih _ _ _ hB' hu.2 hn)
      have hq := hv x ⟨⟨x, hx⟩, rfl⟩
      unfold Oper.quietAt at hq
      generalize hr : (execOp a.eval ops[i]).run P x = r at hq
      cases r with
      | halt y w' => simp only [Oper.quietUpon] at hq
      | ok n w' =>
        obtain ⟨u, rfl⟩ := value_of_kind hk hr
        simp only [Oper.quietUpon] at hq
        obtain ⟨rfl, rfl⟩ := hq
        rfl
    · rename_i hw
      exact wpAnyH_take ho hs hf hr (fun c a w h => hQ c a _ _ w h) (.inr ⟨by simpa using hw, rfl⟩) trivial (ih _ _ _ hB' hu.2 h)
  | one i s ih =>
    intro listed a w hB hu h
    simp only [under, Bool.and_eq_true, decide_eq_true_eq] at hu
    simp only [ok, Bool.and_eq_true, beq_iff_eq] at hB
    simp only [picked, walkF] at h
    refine wpAnyH_all hB.1 (by simp) (fun j hj => ?_)
    obtain rfl : j = i := by simpa using hj
    exact stepF_sound hu.1 (fun a w h => ih _ _ _ hB.2 hu.2 h) h
  | two i s j t ihs iht =>
    intro listed a w hB hu h
    simp only [under, Bool.and_eq_true, decide_eq_true_eq] at hu
    simp only [ok, Bool.and_eq_true, beq_iff_eq] at hB
    simp only [picked, walkF] at h
    refine wpAnyH_all hB.1.1.1 (by simp) (fun k hk => ?_)
    rcases List.mem_cons.1 hk with rfl | hk
    · exact stepF_sound hu.1.1 (fun a w h => ihs _ _ _ hB.1.2 hu.1.2 h) h.1
    · obtain rfl : k = j := by simpa using hk
      refine stepF_sound hu.2.1 (fun a w h => ?_) h.2
      rw [hB.1.1.2]
      exact iht _ _ _ hB.2 hu.2.2 h

/-- THE BEGINNING, for a region that is written out. -/
theorem wp_region_free {id : Nat} {ops : List Oper} {a : Act} {w : World} (s : Sched Nat) (hm : P.follows .mixedOrders = true)
    (hs : (Region.noSelect ops.toArray && (s.depth == ops.toArray.size) && ok .any ops.toArray s (Array.replicate ops.toArray.size false) && under ops.length s) = true)
    (hQ : ∀ c a d v w, Q (.panic c) (Act.put a d v) w → Q (.panic c) a w) (h : walkF P ops.toArray Q (picked ops s) a w.drew) : (Code.region id ops.toArray true).wp P Q a w := by
  simp only [Bool.and_eq_true, beq_iff_eq] at hs
  refine wp_region_held (S := fun _ => True) hm ?_
  have := walkF_sound (md := .any) hs.1.1.1 hQ s _ a w.drew hs.1.2 hs.2 h
  rw [hs.1.1.2] at this
  exact this

theorem walkF_done {a : Act} {w : World} (h : Q .normal a w) : walkF P ops Q .done a w := h
theorem walkF_skip_quiet {s : Sched Oper} {o : Oper} {a : Act} {w : World} (hw : Region.wanted o (yielded ops a.tmps) = false) (h : walkF P ops Q s (a.put o.dst undef) w) : walkF P ops Q (.quiet o s) a w := by
  simp only [walkF]; rw [if_neg (by rw [hw]; exact Bool.false_ne_true)]; exact h
theorem walkF_skip_one {s : Sched Oper} {o : Oper} {a : Act} {w : World} (hw : Region.wanted o (yielded ops a.tmps) = false) (h : walkF P ops Q s (a.put o.dst undef) w) : walkF P ops Q (.one o s) a w := by
  simp only [walkF]; rw [if_neg (by rw [hw]; exact Bool.false_ne_true)]; exact h
theorem walkF_quiet {s : Sched Oper} {o : Oper} {a : Act} {w : World} (hw : Region.wanted o (yielded ops a.tmps) = true)
    (h : ∀ K : Act → Prop, (∀ a', walkF P ops Q s a' w → K a') → o.quiet P a (fun x => ∃ e : AnyW, x = e.val) K) : walkF P ops Q (.quiet o s) a w := by
  simp only [walkF]; rw [if_pos hw]; exact h _ fun _ h => h
theorem walkF_one {s : Sched Oper} {o : Oper} {a : Act} {w : World} (hw : Region.wanted o (yielded ops a.tmps) = true)
    (h : ∀ K : Act → World → Prop, (∀ a' w', walkF P ops Q s a' w' → K a' w') → o.wp P a w K Q) : walkF P ops Q (.one o s) a w := by
  simp only [walkF]; rw [if_pos hw]; exact h _ fun _ _ h2 => h2
theorem walkF_two {s t : Sched Oper} {o o' : Oper} {a : Act} {w : World} (h1 : walkF P ops Q (.one o s) a w) (h2 : walkF P ops Q (.one o' t) a w) : walkF P ops Q (.two o s o' t) a w := by
  simp only [walkF] at h1 h2 ⊢; exact ⟨h1, h2⟩
end
attribute [irreducible] walkF
end Sched
end Go.Proofs.YtmedaimndaaiiaaGreat

/- Records of six cells: made, read, written one by one. No condition. -/
namespace Go.Proofs.YtmedaimndaaiiaaGreat
open Go.RowKit Go.Deep

/-- The cells of a record of six, written one by one. -/
theorem six_set {w : World} {b : Nat} {t : TypeId} {f : Nat → Value} (h : w.rowIs b t 6 f) (u0 u1 u2 u3 u4 u5 : Value) :
    (w.cell? ⟨b, 0, none⟩ = some (f 0) ∧ w.frozen? ⟨b, 0, none⟩ = false) ∧
    ((w.setCell ⟨b, 0, none⟩ u0).cell? ⟨b, 1, none⟩ = some (f 1) ∧ (w.setCell ⟨b, 0, none⟩ u0).frozen? ⟨b, 1, none⟩ = false) ∧
    (((w.setCell ⟨b, 0, none⟩ u0).setCell ⟨b, 1, none⟩ u1).cell? ⟨b, 2, none⟩ = some (f 2) ∧ ((w.setCell ⟨b, 0, none⟩ u0).setCell ⟨b, 1, none⟩ u1).frozen? ⟨b, 2, none⟩ = false) ∧
    ((((w.setCell ⟨b, 0, none⟩ u0).setCell ⟨b, 1, none⟩ u1).setCell ⟨b, 2, none⟩ u2).cell? ⟨b, 3, none⟩ = some (f 3) ∧ (((w.setCell ⟨b, 0, none⟩ u0).setCell ⟨b, 1, none⟩ u1).setCell ⟨b, 2, none⟩ u2).frozen? ⟨b, 3, none⟩ = false) ∧
    (((((w.setCell ⟨b, 0, none⟩ u0).setCell ⟨b, 1, none⟩ u1).setCell ⟨b, 2, none⟩ u2).setCell ⟨b, 3, none⟩ u3).cell? ⟨b, 4, none⟩ = some (f 4) ∧ ((((w.setCell ⟨b, 0, none⟩ u0).setCell ⟨b, 1, none⟩ u1).setCell ⟨b, 2, none⟩ u2).setCell ⟨b, 3, none⟩ u3).frozen? ⟨b, 4, none⟩ = false) ∧
    ((((((w.setCell ⟨b, 0, none⟩ u0).setCell ⟨b, 1, none⟩ u1).setCell ⟨b, 2, none⟩ u2).setCell ⟨b, 3, none⟩ u3).setCell ⟨b, 4, none⟩ u4).cell? ⟨b, 5, none⟩ = some (f 5) ∧ (((((w.setCell ⟨b, 0, none⟩ u0).setCell ⟨b, 1, none⟩ u1).setCell ⟨b, 2, none⟩ u2).setCell ⟨b, 3, none⟩ u3).setCell ⟨b, 4, none⟩ u4).frozen? ⟨b, 5, none⟩ = false) ∧
    ((((((w.setCell ⟨b, 0, none⟩ u0).setCell ⟨b, 1, none⟩ u1).setCell ⟨b, 2, none⟩ u2).setCell ⟨b, 3, none⟩ u3).setCell ⟨b, 4, none⟩ u4).setCell ⟨b, 5, none⟩ u5).rowIs b t 6 (fun i => if i = 0 then u0 else if i = 1 then u1 else if i = 2 then u2 else if i = 3 then u3 else if i = 4 then u4 else u5) := by
  have h1 := h.set 0 u0
  have h2 := h1.set 1 u1
  have h3 := h2.set 2 u2
  have h4 := h3.set 3 u3
  have h5 := h4.set 4 u4
  have h6 := h5.set 5 u5
  refine ⟨⟨h.cell (i := 0) (by omega), h.frozen 0⟩, ⟨h1.cell (i := 1) (by omega), h1.frozen 1⟩, ⟨h2.cell (i := 2) (by omega), h2.frozen 2⟩, ⟨h3.cell (i := 3) (by omega), h3.frozen 3⟩, ⟨h4.cell (i := 4) (by omega), h4.frozen 4⟩, ⟨h5.cell (i := 5) (by omega), h5.frozen 5⟩, h6.congr fun i hi => ?_⟩
  rcases (show i = 0 ∨ i = 1 ∨ i = 2 ∨ i = 3 ∨ i = 4 ∨ i = 5 by omega) with rfl | rfl | rfl | rfl | rfl | rfl <;> rfl
def sixV (u0 u1 u2 u3 u4 u5 : Value) (i : Nat) : Value := if i = 0 then u0 else if i = 1 then u1 else if i = 2 then u2 else if i = 3 then u3 else if i = 4 then u4 else u5
theorem six_cells {w : World} {b : Nat} {t : TypeId} {u0 u1 u2 u3 u4 u5 : Value} (h : w.rowIs b t 6 (sixV u0 u1 u2 u3 u4 u5)) :
    w.cell? ⟨b, 0, none⟩ = some u0 ∧ w.cell? ⟨b, 1, none⟩ = some u1 ∧ w.cell? ⟨b, 2, none⟩ = some u2 ∧ w.cell? ⟨b, 3, none⟩ = some u3 ∧ w.cell? ⟨b, 4, none⟩ = some u4 ∧ w.cell? ⟨b, 5, none⟩ = some u5 :=
  ⟨h.cell (i := 0) (by omega), h.cell (i := 1) (by omega), h.cell (i := 2) (by omega), h.cell (i := 3) (by omega), h.cell (i := 4) (by omega), h.cell (i := 5) (by omega)⟩
theorem six_new (w : World) (t : TypeId) (u0 u1 u2 u3 u4 u5 : Value) : (w.alloc (.cells #[u0, u1, u2, u3, u4, u5] t)).rowIs w.heap.size t 6 (sixV u0 u1 u2 u3 u4 u5) :=
  World.rowIs_alloc w _ _ _ (fun i hi => by rcases (show i = 0 ∨ i = 1 ∨ i = 2 ∨ i = 3 ∨ i = 4 ∨ i = 5 by simp at hi; omega) with rfl | rfl | rfl | rfl | rfl | rfl <;> rfl)
theorem six_row {w : World} {b : Nat} {t : TypeId} {u0 u1 u2 u3 u4 u5 : Value} (h : w.rowIs b t 6 (sixV u0 u1 u2 u3 u4 u5)) : w.heap[b]? = some (.cells #[u0, u1, u2, u3, u4, u5] t (0, 0)) :=
  rowIs_cells #[u0, u1, u2, u3, u4, u5] h (fun i hi => by rcases (show i = 0 ∨ i = 1 ∨ i = 2 ∨ i = 3 ∨ i = 4 ∨ i = 5 by simp at hi; omega) with rfl | rfl | rfl | rfl | rfl | rfl <;> rfl)
end Go.Proofs.YtmedaimndaaiiaaGreat

/- The landed txn's copied and Plain: an act with what its Kind names alone, in new memory. Conditions: texts that may be looked at. -/
namespace Go.Proofs.YtmedaimndaaiiaaGreat
open Go.RowKit Go.Deep

def pcCells (kd n : Int) (t : List Nat) (i : Nat) : Value := if i = 0 then .int .i64 kd else if i = 1 then .int .i64 n else .string (bstr t)
theorem pc_row {w : World} {b : Nat} {kd n : Int} {t : List Nat} (h : w.rowIs b 59 3 (pcCells kd n t)) : w.cell? ⟨b, 0, none⟩ = some (.int .i64 kd) ∧ w.cell? ⟨b, 1, none⟩ = some (.int .i64 n) ∧ w.cell? ⟨b, 2, none⟩ = some (.string (bstr t)) :=
  ⟨h.cell (i := 0) (by omega), h.cell (i := 1) (by omega), h.cell (i := 2) (by omega)⟩
theorem pc_new (w : World) (kd n : Int) (t : List Nat) : (w.alloc (.cells #[.int .i64 kd, .int .i64 n, .string (bstr t)] 59)).rowIs w.heap.size 59 3 (pcCells kd n t) :=
  World.rowIs_alloc w _ _ _ (fun i hi => by rcases (show i = 0 ∨ i = 1 ∨ i = 2 by simp at hi; omega) with rfl | rfl | rfl <;> rfl)
set_option maxHeartbeats 2000000 in
set_option maxRecDepth 100000 in
theorem txCopied_any (A : Option Addr) (ca : Nat) (l : List CompV) (hlen : l.length ≤ 1099511627776) (hf : ∀ y ∈ l, y.text.length ≤ 1099511627776) (w : World) (hA : CompsAt w A l) :
    Calls Tryz.prog 43 #[.slice A l.length ca] w fun e w' => (∃ A' c', e = .returned (.slice A' l.length c') ∧ w'.ownsRow w.heap.size 59 3 (.slice A' l.length c') l.length (l.flatMap compCells)) ∧ Below w.heap.size w w' := by
  have HA := Lib.hid hA
  have HF := Lib.hid hf
  clear hA hf
  go_enter Tryz.func43, Tryz.ntmps43
  go_wp2
  go_loopw [3, 5, 8] (fun o p i wr => ∃ (k : Nat) (A0 : Option Addr) (c0 : Nat), k ≤ l.length ∧ i = .int .i64 k ∧ o = .slice A0 (l.take k).length c0 ∧ wr.ownsRow w.heap.size 59 3 (.slice A0 (l.take k).length c0) (l.take k).length ((l.take k).flatMap compCells) ∧ Below w.heap.size w wr) (fun _ _ i _ => l.length - (intOf i).toNat)
  case atStart => exact ⟨0, none, 0, Nat.zero_le _, rfl, rfl, World.ownsRow_nil _ _ _ _, Below.refl _ _⟩
  case round =>
    obtain ⟨k, A0, c0, hk, rfl, rfl, hown, hb⟩ := hrel
    have HOWN := Lib.hid hown
    have HB := Lib.hid hb
    clear hown hb
    by_cases hlt : k < l.length
    · obtain ⟨b, off, rfl, _⟩ := HA.out.form (by omega)
      obtain ⟨x0, x1, x2⟩ := (HA.out.below HB.out).at_ hlt
      have HFX := Lib.hid (HF.out _ (List.getElem_mem hlt))
      have HTK : Hid (l.take (k + 1) = l.take k ++ [l[k]]) := List.take_succ_eq_append_getElem hlt
      have HLT : Hid ((l.take k).length = k) := by show _ = _; rw [List.length_take]; omega
      generalize l[k] = c at x0 x1 x2 HFX HTK
      obtain ⟨kd, n, t⟩ := c
      simp only at x0 x1 x2 HFX
      generalize l.take k = P at HOWN HTK HLT ⊢
      have GC := Lib.hid (fun w => clone_any t (HFX.out) w)
      have hr := pc_new wr kd n t
      have HR := Lib.hid hr
      have HB1 : Hid (Below wr.heap.size wr (wr.alloc (.cells #[.int .i64 kd, .int .i64 n, .string (bstr t)] 59))) := (Below.refl _ _).alloc (Nat.le_refl _) _
      have r0 := (pc_row hr).2.2
      clear hr
      go_wp2_with fail
      refine (GC.out _).mono ?_
      rintro e w2 ⟨rfl, hb2⟩
      have hr := HR.out.of_block (hb2.block _ HR.out.lt)
      have y2 := (pc_row hr).2.2
      have yf := hr.frozen 2
      have hr2 := hr.set 2 (.string (bstr t))
      have z0 := hr2.cell (i := 0) (by omega)
      have z1 := hr2.cell (i := 1) (by omega)
      have z2 := hr2.cell (i := 2) (by omega)
      have HB2 : Hid (Below wr.heap.size wr (w2.setCell ⟨wr.heap.size, 2, none⟩ (.string (bstr t)))) := (HB1.out.trans (hb2.mono HB1.out.size)).setCell (by show wr.heap.size ≤ wr.heap.size; omega) _
      have z0' : (w2.setCell ⟨wr.heap.size, 2, none⟩ (.string (bstr t))).cell? ⟨wr.heap.size, 0, none⟩ = some (.int .i64 kd) := z0
      have z1' : (w2.setCell ⟨wr.heap.size, 2, none⟩ (.string (bstr t))).cell? ⟨wr.heap.size, 1, none⟩ = some (.int .i64 n) := z1
      have z2' : (w2.setCell ⟨wr.heap.size, 2, none⟩ (.string (bstr t))).cell? ⟨wr.heap.size, 2, none⟩ = some (.string (bstr t)) := z2
      have HOW2 := Lib.hid (own_below HOWN.out HB2.out)
      have HUP : Hid (w.heap.size ≤ (w2.setCell ⟨wr.heap.size, 2, none⟩ (.string (bstr t))).heap.size) := Nat.le_trans HB.out.size HB2.out.size
      have HBW : Hid (Below w.heap.size w (w2.setCell ⟨wr.heap.size, 2, none⟩ (.string (bstr t)))) := HB.out.trans (HB2.out.mono HB.out.size)
      clear hr hr2 hb2 x0 x1 x2 r0 z0 z1 z2
      go_wp2_with (at_builtin
                   go_loud (refine wpList_pushB rfl (.tmp 16) (.tmp 18) rfl w.heap.size (.slice A0 P.length c0) P ⟨kd, n, t⟩ rfl HOW2.out HUP.out (Eq.trans (rfl : _ = Value.slice (some ⟨w2.heap.size, 0, none⟩) 1 1) (by simp [World.setCell])) (by have := HLT.out; omega) ?_)
                   intro out' A5 c5 w5 hout hown hbel
                   have HOUT := Lib.hid hout
                   have HOWN5 := Lib.hid hown
                   have HBEL := Lib.hid (HBW.out.trans hbel)
                   clear hout hown hbel)
      go_roundw
      case rel => exact ⟨k + 1, A5, c5, by omega, by go_num, by rw [HTK.out, ← HOUT.out], by rw [HTK.out, ← HOUT.out]; exact HOWN5.out, HBEL.out⟩
      case measure => simp [intOf]; omega
    · have hke : l.take k = l := List.take_of_length_le (by omega)
      rw [hke] at HOWN ⊢
      clear hke
      go_wp2
      go_ret
      exact ⟨⟨A0, c0, rfl, HOWN.out⟩, HB.out⟩
def plS0 : Sched Nat := (.quiet 6 (.one 5 (.one 7 (.quiet 8 (.one 9 .done)))))
def plS1 : Sched Nat := (.one 2 plS0)
def plS : Sched Nat := (.quiet 0 (.quiet 3 (.two 1 (.two 2 (.one 4 plS0) 4 plS1) 4 (.one 1 plS1))))
theorem own_room {w : World} {base : Nat} {e : TypeId} {size : Nat} {A : Option Addr} {n c : Nat} {xs : List Value} (h : w.ownsRow base e size (.slice A n c) n xs) : n ≤ c ∧ c ≤ maxLen := by
  rcases h.2 with ⟨h1, h2⟩ | ⟨g, cap, cur, h1, _, _, h2, h3, _⟩
  · injection h1 with _ _ h1
    omega
  · injection h1 with _ _ h1
    omega
theorem plain_ops (a : ActV) : (aPlain a).ops = a.ops ∨ (aPlain a).ops = [] := by
  unfold aPlain
  split
  · exact .inr rfl
  split
  · exact .inr rfl
  split
  · exact .inr rfl
  split
  · exact .inl rfl
  · exact .inr rfl
set_option maxHeartbeats 8000000 in
set_option maxRecDepth 100000 in
/-- What is made plain has the same fields, and ops that lie somewhere. -/
theorem txnPlain_any (a : ActV) (ha : ActOk a) (hlen : a.ops.length ≤ 1099511627776) (w : World) (hA : CompsAt w a.opsA a.ops) :
    Calls Tryz.prog 14 #[.agg (actCells a).toArray] w fun e w' => (∃ b : ActV, e = .returned (.agg (actCells b).toArray) ∧ aKey b = aKey (aPlain a) ∧ b.Good ∧ CompsAt w' b.opsA b.ops) ∧ Below w.heap.size w w' := by
  have GM := Lib.hid (fun w => named_any a w)
  have hgood := Good.plain ha.1
  have hat := comps_plain hA
  have hfit : (∀ y ∈ (aPlain a).ops, y.text.length ≤ 1099511627776) ∧ (aPlain a).ops.length ≤ 1099511627776 := by
    rcases plain_ops a with e | e
    · rw [e]; exact ⟨fun y hy => (ha.2.2.1 y hy).2, hlen⟩
    · rw [e]; exact ⟨fun y hy => (by simp at hy), Nat.zero_le _⟩
  have hnm : (aPlain a).name.length ≤ 4000 := by
    have h := ha.2.1
    unfold aPlain
    split
    · exact h
    split
    · simp
    split
    · exact h
    split
    · simp
    · simp
  clear ha hA hlen
  generalize aPlain a = b at GM hgood hat hfit hnm ⊢
  obtain ⟨pk, pi, pp, pn, pd, pA, pC, po⟩ := b
  obtain ⟨ak, ai, ap, an, ad, aA, aC, ao⟩ := a
  simp only at hat hfit hnm
  have GC := Lib.hid (fun w => clone_any pn (by omega) w)
  have GO := Lib.hid (fun (W : World) (h : Below w.heap.size w W) => txCopied_any pA pC po hfit.2 hfit.1 W (hat.below h))
  have HGOOD := Lib.hid hgood
  clear hgood hat hfit hnm
  obtain ⟨g, hg⟩ : ∃ g, g = w.heap.size := ⟨_, rfl⟩
  unfold actCells at GM ⊢
  simp only at GM
  have HR1 := Lib.hid ((six_new w 25 (.int .i64 ak) (.int .i64 ai) (.int .i64 ap) (.string (bstr an)) (.bool ad) (.slice aA ao.length aC)).alloc (Obj.cells #[.int .i64 0, .int .i64 0, .int .i64 0, .string { data := #[] }, .bool false, .slice none 0 0] 25))
  have HR2 := Lib.hid (six_new (w.alloc (.cells #[.int .i64 ak, .int .i64 ai, .int .i64 ap, .string (bstr an), .bool ad, .slice aA ao.length aC] 25)) 25 (.int .i64 0) (.int .i64 0) (.int .i64 0) (.string { data := #[] }) (.bool false) (.slice none 0 0))
  rw [World.size_alloc, ← hg] at HR2
  rw [← hg] at HR1
  have HB0 : Hid (Below g w ((w.alloc (.cells #[.int .i64 ak, .int .i64 ai, .int .i64 ap, .string (bstr an), .bool ad, .slice aA ao.length aC] 25)).alloc (.cells #[.int .i64 0, .int .i64 0, .int .i64 0, .string { data := #[] }, .bool false, .slice none 0 0] 25))) := Lib.hid (by rw [hg]; exact ((Below.refl _ _).alloc (Nat.le_refl _) _).alloc (by simp) _)
  have HG := Lib.hid hg
  clear hg
  go_enter Tryz.func14, Tryz.ntmps14
  go_upto_region 1 with fail
  rw [← HG.out]
  obtain ⟨W0, HW0⟩ : ∃ x, Hid (((w.alloc (.cells #[.int .i64 ak, .int .i64 ai, .int .i64 ap, .string (bstr an), .bool ad, .slice aA ao.length aC] 25)).alloc (.cells #[.int .i64 0, .int .i64 0, .int .i64 0, .string { data := #[] }, .bool false, .slice none 0 0] 25)) = x) := ⟨_, Lib.hid rfl⟩
  rw [HW0.out] at HR1 HR2 HB0 ⊢
  obtain ⟨z0, z1, z2, z3, z4, z5⟩ := six_cells HR1.out
  go_wp2_with fail
  refine (GM.out _).mono ?_
  rintro e w1 ⟨rfl, hb1⟩
  have hr1 := HR1.out.of_block (hb1.block _ HR1.out.lt)
  have hr2 := HR2.out.of_block (hb1.block _ HR2.out.lt)
  obtain ⟨⟨a0, f0⟩, ⟨a1, f1⟩, ⟨a2, f2⟩, ⟨a3, f3⟩, ⟨a4, f4⟩, ⟨a5, f5⟩, hrow⟩ := six_set hr1 (.int .i64 pk) (.int .i64 pi) (.int .i64 pp) (.string (bstr pn)) (.bool pd) (.slice pA po.length pC)
  have hlt := HR1.out.lt
  replace HR2 := Lib.hid ((((((hr2.setOther (a := ⟨g, 0, none⟩) (by show g + 1 ≠ g; omega) (.int .i64 pk)).setOther (a := ⟨g, 1, none⟩) (by show g + 1 ≠ g; omega) (.int .i64 pi)).setOther (a := ⟨g, 2, none⟩) (by show g + 1 ≠ g; omega) (.int .i64 pp)).setOther (a := ⟨g, 3, none⟩) (by show g + 1 ≠ g; omega) (.string (bstr pn))).setOther (a := ⟨g, 4, none⟩) (by show g + 1 ≠ g; omega) (.bool pd)).setOther (a := ⟨g, 5, none⟩) (by show g + 1 ≠ g; omega) (.slice pA po.length pC))
  have HB1 : Hid (Below g w w1) := Lib.hid (HB0.out.trans (hb1.mono (Nat.le_of_lt hlt)))
  replace HB1 := Lib.hid ((((((HB1.out.setCell (p := ⟨g, 0, none⟩) (Nat.le_refl g) (.int .i64 pk)).setCell (p := ⟨g, 1, none⟩) (Nat.le_refl g) (.int .i64 pi)).setCell (p := ⟨g, 2, none⟩) (Nat.le_refl g) (.int .i64 pp)).setCell (p := ⟨g, 3, none⟩) (Nat.le_refl g) (.string (bstr pn))).setCell (p := ⟨g, 4, none⟩) (Nat.le_refl g) (.bool pd)).setCell (p := ⟨g, 5, none⟩) (Nat.le_refl g) (.slice pA po.length pC))
  replace HR1 : Hid (World.rowIs _ g 25 6 (sixV (.int .i64 pk) (.int .i64 pi) (.int .i64 pp) (.string (bstr pn)) (.bool pd) (.slice pA po.length pC))) := Lib.hid hrow
  clear hr1 hr2 hrow hb1 z0 z1 z2 z3 z4 z5 HB0 HW0 GM
  go_upto_region 2 with fail
  clear a0 a1 a2 a3 a4 a5 f0 f1 f2 f3 f4 f5
  refine Sched.wp_region_free plS (by kernel_rfl) (by kernel_rfl) (fun _ _ d _ _ h => by cases d <;> exact h) ?_
  replace HR1 := Lib.hid HR1.out.drew
  replace HR2 := Lib.hid HR2.out.drew
  replace HB1 := Lib.hid HB1.out.drew
  generalize World.drew _ = wd at HR1 HR2 HB1 ⊢
  clear hlt
  simp only [plS, Sched.picked, List.getElem?_cons_succ, List.getElem?_cons_zero, Option.getD_some]
  repeat (first | (refine Sched.walkF_quiet (by rfl) (fun K hK => ?_); go_big_quiet_op; refine hK _ ?_; clear hK K) | (refine Sched.walkF_skip_quiet (by rfl) ?_; simp only [Act.put, List.setIfInBounds_toArray, List.set_cons_zero, List.set_cons_succ]))
  refine Sched.walkF_two ?_ ?_
  · skip
    have hld := (six_cells HR1.out).2.2.2.1
    refine Sched.walkF_one (by rfl) (fun K hK => ?_)
    go_simp
    refine hK _ _ ?_
    clear hK K hld
    repeat (first | (refine Sched.walkF_quiet (by rfl) (fun K hK => ?_); go_big_quiet_op; refine hK _ ?_; clear hK K) | (refine Sched.walkF_skip_quiet (by rfl) ?_; simp only [Act.put, List.setIfInBounds_toArray, List.set_cons_zero, List.set_cons_succ]))
    refine Sched.walkF_two ?_ ?_
    · skip
      refine Sched.walkF_one (by rfl) (fun K hK => ?_)
      go_simp
      refine (GC.out _).mono ?_
      rintro e x1 ⟨rfl, hb⟩
      refine hK _ _ ?_
      clear hK K
      replace HR1 := Lib.hid (HR1.out.of_block (hb.block _ HR1.out.lt))
      replace HR2 := Lib.hid (HR2.out.of_block (hb.block _ HR2.out.lt))
      replace HB1 := Lib.hid (HB1.out.trans (hb.mono (Nat.le_trans (by rw [HG.out]; exact Nat.le_refl _) HB1.out.size)))
      clear hb
      repeat (first | (refine Sched.walkF_quiet (by rfl) (fun K hK => ?_); go_big_quiet_op; refine hK _ ?_; clear hK K) | (refine Sched.walkF_skip_quiet (by rfl) ?_; simp only [Act.put, List.setIfInBounds_toArray, List.set_cons_zero, List.set_cons_succ]))
      have hld := (six_cells HR1.out).2.2.2.2.2
      refine Sched.walkF_one (by rfl) (fun K hK => ?_)
      go_simp
      refine hK _ _ ?_
      clear hK K hld
      repeat (first | (refine Sched.walkF_quiet (by rfl) (fun K hK => ?_); go_big_quiet_op; refine hK _ ?_; clear hK K) | (refine Sched.walkF_skip_quiet (by rfl) ?_; simp only [Act.put, List.setIfInBounds_toArray, List.set_cons_zero, List.set_cons_succ]))
      simp only [plS0, Sched.picked, List.getElem?_cons_succ, List.getElem?_cons_zero, Option.getD_some]
      repeat (first | (refine Sched.walkF_quiet (by rfl) (fun K hK => ?_); go_big_quiet_op; refine hK _ ?_; clear hK K) | (refine Sched.walkF_skip_quiet (by rfl) ?_; simp only [Act.put, List.setIfInBounds_toArray, List.set_cons_zero, List.set_cons_succ]))
      refine Sched.walkF_one (by rfl) (fun K hK => ?_)
      go_simp
      refine (GO.out _ (by rw [← HG.out]; exact HB1.out)).mono ?_
      rintro e x2 ⟨⟨A2, c2, rfl, hown⟩, hb⟩
      refine hK _ _ ?_
      clear hK K
      have hgs := HR1.out.lt
      have hgs2 := HR2.out.lt
      replace HR1 := Lib.hid (HR1.out.of_block (hb.block _ hgs))
      replace HR2 := Lib.hid (HR2.out.of_block (hb.block _ hgs2))
      replace HB1 := Lib.hid (HB1.out.trans (hb.mono (Nat.le_of_lt hgs)))
      have HOWN := Lib.hid (own_base hown (base' := g + 2) (by omega))
      clear hb hown hgs hgs2
      repeat (first | (refine Sched.walkF_quiet (by rfl) (fun K hK => ?_); go_big_quiet_op; refine hK _ ?_; clear hK K) | (refine Sched.walkF_skip_quiet (by rfl) ?_; simp only [Act.put, List.setIfInBounds_toArray, List.set_cons_zero, List.set_cons_succ]))
      have hc3 := HR1.out.cell (i := 3) (by omega)
      have hf3 := HR1.out.frozen 3
      refine Sched.walkF_one (by rfl) (fun K hK => ?_)
      go_simp
      refine hK _ _ ?_
      clear hK K hc3 hf3
      replace HR1 := Lib.hid (HR1.out.set 3 (.string (bstr pn)))
      replace HR2 := Lib.hid (HR2.out.setOther (a := ⟨g, 3, none⟩) (by show g + 1 ≠ g; omega) (.string (bstr pn)))
      replace HB1 := Lib.hid (HB1.out.setCell (p := ⟨g, 3, none⟩) (Nat.le_refl g) (.string (bstr pn)))
      replace HOWN := Lib.hid (ownsRow_setCell_below (a := ⟨g, 3, none⟩) HOWN.out (by show g < g + 2; omega) (.string (bstr pn)))
      repeat (first | (refine Sched.walkF_quiet (by rfl) (fun K hK => ?_); go_big_quiet_op; refine hK _ ?_; clear hK K) | (refine Sched.walkF_skip_quiet (by rfl) ?_; simp only [Act.put, List.setIfInBounds_toArray, List.set_cons_zero, List.set_cons_succ]))
      have hc5 := HR1.out.cell (i := 5) (by omega)
      have hf5 := HR1.out.frozen 5
      refine Sched.walkF_one (by rfl) (fun K hK => ?_)
      go_simp
      refine hK _ _ ?_
      clear hK K hc5 hf5
      replace HR1 := Lib.hid (HR1.out.set 5 (.slice A2 po.length c2))
      replace HR2 := Lib.hid (HR2.out.setOther (a := ⟨g, 5, none⟩) (by show g + 1 ≠ g; omega) (.slice A2 po.length c2))
      replace HB1 := Lib.hid (HB1.out.setCell (p := ⟨g, 5, none⟩) (Nat.le_refl g) (.slice A2 po.length c2))
      replace HOWN := Lib.hid (ownsRow_setCell_below (a := ⟨g, 5, none⟩) HOWN.out (by show g < g + 2; omega) (.slice A2 po.length c2))
      generalize World.setCell _ _ _ = x3 at HR1 HR2 HB1 HOWN ⊢
      refine Sched.walkF_done ?_
      have hrow : World.rowIs x3 g 25 6 (sixV (.int .i64 pk) (.int .i64 pi) (.int .i64 pp) (.string (bstr pn)) (.bool pd) (.slice A2 po.length c2)) := HR1.out.congr fun i hi => by rcases (show i = 0 ∨ i = 1 ∨ i = 2 ∨ i = 3 ∨ i = 4 ∨ i = 5 by omega) with rfl | rfl | rfl | rfl | rfl | rfl <;> rfl
      obtain ⟨z0, z1, z2, z3, z4, z5⟩ := six_cells hrow
      obtain ⟨⟨a0, f0⟩, ⟨a1, f1⟩, ⟨a2, f2⟩, ⟨a3, f3⟩, ⟨a4, f4⟩, ⟨a5, f5⟩, hres⟩ := six_set HR2.out (.int .i64 pk) (.int .i64 pi) (.int .i64 pp) (.string (bstr pn)) (.bool pd) (.slice A2 po.length c2)
      have HRES := Lib.hid (six_row hres)
      clear hrow hres
      go_wp2
      refine bodyPost_ret (results_cell_row rfl _ _ (g + 1) 25 #[.int .i64 pk, .int .i64 pi, .int .i64 pp, .string (bstr pn), .bool pd, .slice A2 po.length c2] (0, 0) _ rfl HRES.out Tryz.underlying25 rfl (by kernel_rfl)) rfl ?_
      obtain ⟨h1, h2, h3, h4, h5, h6, h7⟩ := HGOOD.out
      have hroom := own_room HOWN.out
      refine ⟨⟨⟨pk, pi, pp, pn, pd, A2, c2, po⟩, rfl, rfl, ⟨h1, h2, h3, h4, h5, hroom.1, hroom.2⟩, ?_⟩, ?_⟩
      · exact CellsAt.of_own (ownsRow_setCell_below (a := ⟨g + 1, 5, none⟩) (ownsRow_setCell_below (a := ⟨g + 1, 4, none⟩) (ownsRow_setCell_below (a := ⟨g + 1, 3, none⟩) (ownsRow_setCell_below (a := ⟨g + 1, 2, none⟩) (ownsRow_setCell_below (a := ⟨g + 1, 1, none⟩) (ownsRow_setCell_below (a := ⟨g + 1, 0, none⟩) HOWN.out (by show g + 1 < g + 2; omega) _) (by show g + 1 < g + 2; omega) _) (by show g + 1 < g + 2; omega) _) (by show g + 1 < g + 2; omega) _) (by show g + 1 < g + 2; omega) _) (by show g + 1 < g + 2; omega) _)
      · rw [← HG.out]
        exact (((((HB1.out.setCell (p := ⟨g + 1, 0, none⟩) (Nat.le_succ g) _).setCell (p := ⟨g + 1, 1, none⟩) (Nat.le_succ g) _).setCell (p := ⟨g + 1, 2, none⟩) (Nat.le_succ g) _).setCell (p := ⟨g + 1, 3, none⟩) (Nat.le_succ g) _).setCell (p := ⟨g + 1, 4, none⟩) (Nat.le_succ g) _).setCell (p := ⟨g + 1, 5, none⟩) (Nat.le_succ g) _
    · skip
      have hld := (six_cells HR1.out).2.2.2.2.2
      refine Sched.walkF_one (by rfl) (fun K hK => ?_)
      go_simp
      refine hK _ _ ?_
      clear hK K hld
      repeat (first | (refine Sched.walkF_quiet (by rfl) (fun K hK => ?_); go_big_quiet_op; refine hK _ ?_; clear hK K) | (refine Sched.walkF_skip_quiet (by rfl) ?_; simp only [Act.put, List.setIfInBounds_toArray, List.set_cons_zero, List.set_cons_succ]))
      simp only [plS1, Sched.picked, List.getElem?_cons_succ, List.getElem?_cons_zero, Option.getD_some]
      refine Sched.walkF_one (by rfl) (fun K hK => ?_)
      go_simp
      refine (GC.out _).mono ?_
      rintro e x1 ⟨rfl, hb⟩
      refine hK _ _ ?_
      clear hK K
      replace HR1 := Lib.hid (HR1.out.of_block (hb.block _ HR1.out.lt))
      replace HR2 := Lib.hid (HR2.out.of_block (hb.block _ HR2.out.lt))
      replace HB1 := Lib.hid (HB1.out.trans (hb.mono (Nat.le_trans (by rw [HG.out]; exact Nat.le_refl _) HB1.out.size)))
      clear hb
      repeat (first | (refine Sched.walkF_quiet (by rfl) (fun K hK => ?_); go_big_quiet_op; refine hK _ ?_; clear hK K) | (refine Sched.walkF_skip_quiet (by rfl) ?_; simp only [Act.put, List.setIfInBounds_toArray, List.set_cons_zero, List.set_cons_succ]))
      simp only [plS0, Sched.picked, List.getElem?_cons_succ, List.getElem?_cons_zero, Option.getD_some]
      repeat (first | (refine Sched.walkF_quiet (by rfl) (fun K hK => ?_); go_big_quiet_op; refine hK _ ?_; clear hK K) | (refine Sched.walkF_skip_quiet (by rfl) ?_; simp only [Act.put, List.setIfInBounds_toArray, List.set_cons_zero, List.set_cons_succ]))
      refine Sched.walkF_one (by rfl) (fun K hK => ?_)
      go_simp
      refine (GO.out _ (by rw [← HG.out]; exact HB1.out)).mono ?_
      rintro e x2 ⟨⟨A2, c2, rfl, hown⟩, hb⟩
      refine hK _ _ ?_
      clear hK K
      have hgs := HR1.out.lt
      have hgs2 := HR2.out.lt
      replace HR1 := Lib.hid (HR1.out.of_block (hb.block _ hgs))
      replace HR2 := Lib.hid (HR2.out.of_block (hb.block _ hgs2))
      replace HB1 := Lib.hid (HB1.out.trans (hb.mono (Nat.le_of_lt hgs)))
      have HOWN := Lib.hid (own_base hown (base' := g + 2) (by omega))
      clear hb hown hgs hgs2
      repeat (first | (refine Sched.walkF_quiet (by rfl) (fun K hK => ?_); go_big_quiet_op; refine hK _ ?_; clear hK K) | (refine Sched.walkF_skip_quiet (by rfl) ?_; simp only [Act.put, List.setIfInBounds_toArray, List.set_cons_zero, List.set_cons_succ]))
      have hc3 := HR1.out.cell (i := 3) (by omega)
      have hf3 := HR1.out.frozen 3
      refine Sched.walkF_one (by rfl) (fun K hK => ?_)
      go_simp
      refine hK _ _ ?_
      clear hK K hc3 hf3
      replace HR1 := Lib.hid (HR1.out.set 3 (.string (bstr pn)))
      replace HR2 := Lib.hid (HR2.out.setOther (a := ⟨g, 3, none⟩) (by show g + 1 ≠ g; omega) (.string (bstr pn)))
      replace HB1 := Lib.hid (HB1.out.setCell (p := ⟨g, 3, none⟩) (Nat.le_refl g) (.string (bstr pn)))
      replace HOWN := Lib.hid (ownsRow_setCell_below (a := ⟨g, 3, none⟩) HOWN.out (by show g < g + 2; omega) (.string (bstr pn)))
      repeat (first | (refine Sched.walkF_quiet (by rfl) (fun K hK => ?_); go_big_quiet_op; refine hK _ ?_; clear hK K) | (refine Sched.walkF_skip_quiet (by rfl) ?_; simp only [Act.put, List.setIfInBounds_toArray, List.set_cons_zero, List.set_cons_succ]))
      have hc5 := HR1.out.cell (i := 5) (by omega)
      have hf5 := HR1.out.frozen 5
      refine Sched.walkF_one (by rfl) (fun K hK => ?_)
      go_simp
      refine hK _ _ ?_
      clear hK K hc5 hf5
      replace HR1 := Lib.hid (HR1.out.set 5 (.slice A2 po.length c2))
      replace HR2 := Lib.hid (HR2.out.setOther (a := ⟨g, 5, none⟩) (by show g + 1 ≠ g; omega) (.slice A2 po.length c2))
      replace HB1 := Lib.hid (HB1.out.setCell (p := ⟨g, 5, none⟩) (Nat.le_refl g) (.slice A2 po.length c2))
      replace HOWN := Lib.hid (ownsRow_setCell_below (a := ⟨g, 5, none⟩) HOWN.out (by show g < g + 2; omega) (.slice A2 po.length c2))
      generalize World.setCell _ _ _ = x3 at HR1 HR2 HB1 HOWN ⊢
      refine Sched.walkF_done ?_
      have hrow : World.rowIs x3 g 25 6 (sixV (.int .i64 pk) (.int .i64 pi) (.int .i64 pp) (.string (bstr pn)) (.bool pd) (.slice A2 po.length c2)) := HR1.out.congr fun i hi => by rcases (show i = 0 ∨ i = 1 ∨ i = 2 ∨ i = 3 ∨ i = 4 ∨ i = 5 by omega) with rfl | rfl | rfl | rfl | rfl | rfl <;> rfl
      obtain ⟨z0, z1, z2, z3, z4, z5⟩ := six_cells hrow
      obtain ⟨⟨a0, f0⟩, ⟨a1, f1⟩, ⟨a2, f2⟩, ⟨a3, f3⟩, ⟨a4, f4⟩, ⟨a5, f5⟩, hres⟩ := six_set HR2.out (.int .i64 pk) (.int .i64 pi) (.int .i64 pp) (.string (bstr pn)) (.bool pd) (.slice A2 po.length c2)
      have HRES := Lib.hid (six_row hres)
      clear hrow hres
      go_wp2
      refine bodyPost_ret (results_cell_row rfl _ _ (g + 1) 25 #[.int .i64 pk, .int .i64 pi, .int .i64 pp, .string (bstr pn), .bool pd, .slice A2 po.length c2] (0, 0) _ rfl HRES.out Tryz.underlying25 rfl (by kernel_rfl)) rfl ?_
      obtain ⟨h1, h2, h3, h4, h5, h6, h7⟩ := HGOOD.out
      have hroom := own_room HOWN.out
      refine ⟨⟨⟨pk, pi, pp, pn, pd, A2, c2, po⟩, rfl, rfl, ⟨h1, h2, h3, h4, h5, hroom.1, hroom.2⟩, ?_⟩, ?_⟩
      · exact CellsAt.of_own (ownsRow_setCell_below (a := ⟨g + 1, 5, none⟩) (ownsRow_setCell_below (a := ⟨g + 1, 4, none⟩) (ownsRow_setCell_below (a := ⟨g + 1, 3, none⟩) (ownsRow_setCell_below (a := ⟨g + 1, 2, none⟩) (ownsRow_setCell_below (a := ⟨g + 1, 1, none⟩) (ownsRow_setCell_below (a := ⟨g + 1, 0, none⟩) HOWN.out (by show g + 1 < g + 2; omega) _) (by show g + 1 < g + 2; omega) _) (by show g + 1 < g + 2; omega) _) (by show g + 1 < g + 2; omega) _) (by show g + 1 < g + 2; omega) _) (by show g + 1 < g + 2; omega) _)
      · rw [← HG.out]
        exact (((((HB1.out.setCell (p := ⟨g + 1, 0, none⟩) (Nat.le_succ g) _).setCell (p := ⟨g + 1, 1, none⟩) (Nat.le_succ g) _).setCell (p := ⟨g + 1, 2, none⟩) (Nat.le_succ g) _).setCell (p := ⟨g + 1, 3, none⟩) (Nat.le_succ g) _).setCell (p := ⟨g + 1, 4, none⟩) (Nat.le_succ g) _).setCell (p := ⟨g + 1, 5, none⟩) (Nat.le_succ g) _
  · skip
    have hld := (six_cells HR1.out).2.2.2.2.2
    refine Sched.walkF_one (by rfl) (fun K hK => ?_)
    go_simp
    refine hK _ _ ?_
    clear hK K hld
    repeat (first | (refine Sched.walkF_quiet (by rfl) (fun K hK => ?_); go_big_quiet_op; refine hK _ ?_; clear hK K) | (refine Sched.walkF_skip_quiet (by rfl) ?_; simp only [Act.put, List.setIfInBounds_toArray, List.set_cons_zero, List.set_cons_succ]))
    have hld := (six_cells HR1.out).2.2.2.1
    refine Sched.walkF_one (by rfl) (fun K hK => ?_)
    go_simp
    refine hK _ _ ?_
    clear hK K hld
    repeat (first | (refine Sched.walkF_quiet (by rfl) (fun K hK => ?_); go_big_quiet_op; refine hK _ ?_; clear hK K) | (refine Sched.walkF_skip_quiet (by rfl) ?_; simp only [Act.put, List.setIfInBounds_toArray, List.set_cons_zero, List.set_cons_succ]))
    simp only [plS1, Sched.picked, List.getElem?_cons_succ, List.getElem?_cons_zero, Option.getD_some]
    refine Sched.walkF_one (by rfl) (fun K hK => ?_)
    go_simp
    refine (GC.out _).mono ?_
    rintro e x1 ⟨rfl, hb⟩
    refine hK _ _ ?_
    clear hK K
    replace HR1 := Lib.hid (HR1.out.of_block (hb.block _ HR1.out.lt))
    replace HR2 := Lib.hid (HR2.out.of_block (hb.block _ HR2.out.lt))
    replace HB1 := Lib.hid (HB1.out.trans (hb.mono (Nat.le_trans (by rw [HG.out]; exact Nat.le_refl _) HB1.out.size)))
    clear hb
    repeat (first | (refine Sched.walkF_quiet (by rfl) (fun K hK => ?_); go_big_quiet_op; refine hK _ ?_; clear hK K) | (refine Sched.walkF_skip_quiet (by rfl) ?_; simp only [Act.put, List.setIfInBounds_toArray, List.set_cons_zero, List.set_cons_succ]))
    simp only [plS0, Sched.picked, List.getElem?_cons_succ, List.getElem?_cons_zero, Option.getD_some]
    repeat (first | (refine Sched.walkF_quiet (by rfl) (fun K hK => ?_); go_big_quiet_op; refine hK _ ?_; clear hK K) | (refine Sched.walkF_skip_quiet (by rfl) ?_; simp only [Act.put, List.setIfInBounds_toArray, List.set_cons_zero, List.set_cons_succ]))
    refine Sched.walkF_one (by rfl) (fun K hK => ?_)
    go_simp
    refine (GO.out _ (by rw [← HG.out]; exact HB1.out)).mono ?_
    rintro e x2 ⟨⟨A2, c2, rfl, hown⟩, hb⟩
    refine hK _ _ ?_
    clear hK K
    have hgs := HR1.out.lt
    have hgs2 := HR2.out.lt
    replace HR1 := Lib.hid (HR1.out.of_block (hb.block _ hgs))
    replace HR2 := Lib.hid (HR2.out.of_block (hb.block _ hgs2))
    replace HB1 := Lib.hid (HB1.out.trans (hb.mono (Nat.le_of_lt hgs)))
    have HOWN := Lib.hid (own_base hown (base' := g + 2) (by omega))
    clear hb hown hgs hgs2
    repeat (first | (refine Sched.walkF_quiet (by rfl) (fun K hK => ?_); go_big_quiet_op; refine hK _ ?_; clear hK K) | (refine Sched.walkF_skip_quiet (by rfl) ?_; simp only [Act.put, List.setIfInBounds_toArray, List.set_cons_zero, List.set_cons_succ]))
    have hc3 := HR1.out.cell (i := 3) (by omega)
    have hf3 := HR1.out.frozen 3
    refine Sched.walkF_one (by rfl) (fun K hK => ?_)
    go_simp
    refine hK _ _ ?_
    clear hK K hc3 hf3
    replace HR1 := Lib.hid (HR1.out.set 3 (.string (bstr pn)))
    replace HR2 := Lib.hid (HR2.out.setOther (a := ⟨g, 3, none⟩) (by show g + 1 ≠ g; omega) (.string (bstr pn)))
    replace HB1 := Lib.hid (HB1.out.setCell (p := ⟨g, 3, none⟩) (Nat.le_refl g) (.string (bstr pn)))
    replace HOWN := Lib.hid (ownsRow_setCell_below (a := ⟨g, 3, none⟩) HOWN.out (by show g < g + 2; omega) (.string (bstr pn)))
    repeat (first | (refine Sched.walkF_quiet (by rfl) (fun K hK => ?_); go_big_quiet_op; refine hK _ ?_; clear hK K) | (refine Sched.walkF_skip_quiet (by rfl) ?_; simp only [Act.put, List.setIfInBounds_toArray, List.set_cons_zero, List.set_cons_succ]))
    have hc5 := HR1.out.cell (i := 5) (by omega)
    have hf5 := HR1.out.frozen 5
    refine Sched.walkF_one (by rfl) (fun K hK => ?_)
    go_simp
    refine hK _ _ ?_
    clear hK K hc5 hf5
    replace HR1 := Lib.hid (HR1.out.set 5 (.slice A2 po.length c2))
    replace HR2 := Lib.hid (HR2.out.setOther (a := ⟨g, 5, none⟩) (by show g + 1 ≠ g; omega) (.slice A2 po.length c2))
    replace HB1 := Lib.hid (HB1.out.setCell (p := ⟨g, 5, none⟩) (Nat.le_refl g) (.slice A2 po.length c2))
    replace HOWN := Lib.hid (ownsRow_setCell_below (a := ⟨g, 5, none⟩) HOWN.out (by show g < g + 2; omega) (.slice A2 po.length c2))
    generalize World.setCell _ _ _ = x3 at HR1 HR2 HB1 HOWN ⊢
    refine Sched.walkF_done ?_
    have hrow : World.rowIs x3 g 25 6 (sixV (.int .i64 pk) (.int .i64 pi) (.int .i64 pp) (.string (bstr pn)) (.bool pd) (.slice A2 po.length c2)) := HR1.out.congr fun i hi => by rcases (show i = 0 ∨ i = 1 ∨ i = 2 ∨ i = 3 ∨ i = 4 ∨ i = 5 by omega) with rfl | rfl | rfl | rfl | rfl | rfl <;> rfl
    obtain ⟨z0, z1, z2, z3, z4, z5⟩ := six_cells hrow
    obtain ⟨⟨a0, f0⟩, ⟨a1, f1⟩, ⟨a2, f2⟩, ⟨a3, f3⟩, ⟨a4, f4⟩, ⟨a5, f5⟩, hres⟩ := six_set HR2.out (.int .i64 pk) (.int .i64 pi) (.int .i64 pp) (.string (bstr pn)) (.bool pd) (.slice A2 po.length c2)
    have HRES := Lib.hid (six_row hres)
    clear hrow hres
    go_wp2
    refine bodyPost_ret (results_cell_row rfl _ _ (g + 1) 25 #[.int .i64 pk, .int .i64 pi, .int .i64 pp, .string (bstr pn), .bool pd, .slice A2 po.length c2] (0, 0) _ rfl HRES.out Tryz.underlying25 rfl (by kernel_rfl)) rfl ?_
    obtain ⟨h1, h2, h3, h4, h5, h6, h7⟩ := HGOOD.out
    have hroom := own_room HOWN.out
    refine ⟨⟨⟨pk, pi, pp, pn, pd, A2, c2, po⟩, rfl, rfl, ⟨h1, h2, h3, h4, h5, hroom.1, hroom.2⟩, ?_⟩, ?_⟩
    · exact CellsAt.of_own (ownsRow_setCell_below (a := ⟨g + 1, 5, none⟩) (ownsRow_setCell_below (a := ⟨g + 1, 4, none⟩) (ownsRow_setCell_below (a := ⟨g + 1, 3, none⟩) (ownsRow_setCell_below (a := ⟨g + 1, 2, none⟩) (ownsRow_setCell_below (a := ⟨g + 1, 1, none⟩) (ownsRow_setCell_below (a := ⟨g + 1, 0, none⟩) HOWN.out (by show g + 1 < g + 2; omega) _) (by show g + 1 < g + 2; omega) _) (by show g + 1 < g + 2; omega) _) (by show g + 1 < g + 2; omega) _) (by show g + 1 < g + 2; omega) _) (by show g + 1 < g + 2; omega) _)
    · rw [← HG.out]
      exact (((((HB1.out.setCell (p := ⟨g + 1, 0, none⟩) (Nat.le_succ g) _).setCell (p := ⟨g + 1, 1, none⟩) (Nat.le_succ g) _).setCell (p := ⟨g + 1, 2, none⟩) (Nat.le_succ g) _).setCell (p := ⟨g + 1, 3, none⟩) (Nat.le_succ g) _).setCell (p := ⟨g + 1, 4, none⟩) (Nat.le_succ g) _).setCell (p := ⟨g + 1, 5, none⟩) (Nat.le_succ g) _
end Go.Proofs.YtmedaimndaaiiaaGreat
