/- The landed stretch: where it lies, with the rows of its own; what lives on when a row grows. No condition beyond those that each lemma states. -/
import Derived.Test.YtgdojhccdicapaaOpNorm
import Derived.Test.YtgdojhccdicapaaOpLen
import Derived.Test.YtgdojhccdicapaaPush
import Derived.Lib.AppendStr
namespace Go.Proofs.Ytgdojhccdicapaa
open Go.RowKit Go.Deep Go.Lib

/-- Below B only the block g may have been written. -/
structure Aside (g B : Nat) (w w' : World) : Prop where
  os : w'.os = w.os
  tape : w'.tape = w.tape
  output : w'.output = w.output
  size : w.heap.size ≤ w'.heap.size
  block : ∀ k, k < B → k ≠ g → w'.heap[k]? = w.heap[k]?
theorem Aside.refl (g B : Nat) (w : World) : Aside g B w w := ⟨rfl, rfl, rfl, Nat.le_refl _, fun _ _ _ => rfl⟩
theorem Aside.trans {g B : Nat} {a b c : World} (h : Aside g B a b) (k : Aside g B b c) : Aside g B a c :=
  ⟨k.os.trans h.os, k.tape.trans h.tape, k.output.trans h.output, Nat.le_trans h.size k.size, fun i hi hg => (k.block i hi hg).trans (h.block i hi hg)⟩
theorem Aside.of_below {g B : Nat} {w w' : World} (h : Below w.heap.size w w') (hB : B ≤ w.heap.size) : Aside g B w w' := ⟨h.os, h.tape, h.output, h.size, fun k hk _ => h.block k (by omega)⟩
theorem Aside.grown {g B : Nat} {a w w' : World} {row : Option Nat} (h : Aside g B a w) (hg : w.grownBy w' row) (hB : B ≤ w.heap.size) (hr : ∀ k, row = some k → B ≤ k) : Aside g B a w' :=
  h.trans ⟨hg.os, hg.tape, hg.output, hg.size, fun k hk _ => hg.block k (by omega) (fun e => by have := hr k e.symm; omega)⟩
theorem Aside.set {g B : Nat} {a w : World} (h : Aside g B a w) (i : Nat) (v : Value) : Aside g B a (w.setCell ⟨g, i, none⟩ v) :=
  h.trans ⟨rfl, rfl, rfl, by simp [World.setCell], fun k _ hk => Below.heap_setCell _ _ _ _ hk⟩
/-- Nothing below the number h was written, if g is not below it. -/
theorem Aside.below {g B h : Nat} {W w w' : World} (k : Aside g B w w') (hb : Below h W w) (hg : h ≤ g) (hB : h ≤ B) : Below h W w' :=
  hb.trans ⟨k.os, k.tape, k.output, k.size, fun i hi => k.block i (by omega) (by omega)⟩

/-- The cells of a stretch. -/
def stCells (keep : Int) (A : Option Addr) (n c : Nat) (gone : Int) (i : Nat) : Value := if i = 0 then .int .i64 keep else if i = 1 then .slice A n c else .int .i64 gone
/-- The block g holds a stretch; its text, and the row o of what was made, lie from the block B on. -/
def NowAt (g B : Nat) (s : NS) (o : Value) (w : World) : Prop :=
  g < B ∧ B ≤ w.heap.size ∧ (∃ A c, w.rowIs g 48 3 (stCells s.keep A s.text.length c s.gone) ∧ w.ownsRow B 5 1 (.slice A s.text.length c) s.text.length (u8s s.text)) ∧ w.ownsRow B 35 3 o s.out.length (s.out.flatMap compCells)
theorem NowAt.below {g B : Nat} {s : NS} {o : Value} {w w' : World} (h : NowAt g B s o w) (hb : Below w.heap.size w w') : NowAt g B s o w' := by
  obtain ⟨h1, h2, ⟨A, c, hr, ht⟩, ho⟩ := h
  exact ⟨h1, Nat.le_trans h2 hb.size, ⟨A, c, hr.of_block (hb.block g hr.lt), own_below ht hb⟩, own_below ho hb⟩
theorem NowAt.row {g B : Nat} {s : NS} {o : Value} {w : World} (h : NowAt g B s o w) : w.ownsRow B 35 3 o s.out.length (s.out.flatMap compCells) := h.2.2.2
theorem NowAt.up {g B : Nat} {s : NS} {o : Value} {w : World} (h : NowAt g B s o w) : B ≤ w.heap.size := h.2.1
theorem NowAt.lt {g B : Nat} {s : NS} {o : Value} {w : World} (h : NowAt g B s o w) : g < B := h.1
theorem NowAt.out {g B : Nat} {s : NS} {o : Value} {w : World} (h : NowAt g B s o w) : ∃ A c, o = .slice A s.out.length c := own_slice h.row
/-- What is read of a stretch. -/
theorem NowAt.read {g B : Nat} {s : NS} {o : Value} {w : World} (h : NowAt g B s o w) : ∃ A c, w.cell? ⟨g, 0, none⟩ = some (.int .i64 s.keep) ∧ w.cell? ⟨g, 1, none⟩ = some (.slice A s.text.length c) ∧ w.cell? ⟨g, 2, none⟩ = some (.int .i64 s.gone) ∧
    w.frozen? ⟨g, 0, none⟩ = false ∧ w.frozen? ⟨g, 1, none⟩ = false ∧ w.frozen? ⟨g, 2, none⟩ = false ∧ w.ownsRow B 5 1 (.slice A s.text.length c) s.text.length (u8s s.text) ∧ w.rowIs g 48 3 (stCells s.keep A s.text.length c s.gone) := by
  obtain ⟨h1, h2, ⟨A, c, hr, ht⟩, ho⟩ := h
  exact ⟨A, c, hr.cell (i := 0) (by omega), hr.cell (i := 1) (by omega), hr.cell (i := 2) (by omega), hr.frozen 0, hr.frozen 1, hr.frozen 2, ht, hr⟩
/-- A part is put behind what was made. -/
theorem NowAt.push {g B : Nat} {s : NS} {o o' : Value} {out' : List CompV} {w w' : World} (h : NowAt g B s o w) (hg : w.grownBy w' o.ownBlock) (ho : w'.ownsRow B 35 3 o' out'.length (out'.flatMap compCells)) : NowAt g B { s with out := out' } o' w' := by
  obtain ⟨h1, h2, ⟨A, c, hr, ht⟩, ho0⟩ := h
  exact ⟨h1, Nat.le_trans h2 hg.size, ⟨A, c, hr.of_block (hg.block g hr.lt (fun e => by have := (ho0.lt g e.symm).1; omega)), own_grown ht ho0 (by decide) hg⟩, ho⟩
theorem own_set_below {w : World} {B g : Nat} {e : TypeId} {size : Nat} {v : Value} {n : Nat} {xs : List Value} (h : w.ownsRow B e size v n xs) (hg : g < B) (i : Nat) (u : Value) : (w.setCell ⟨g, i, none⟩ u).ownsRow B e size v n xs :=
  own_only h ((Only.refl g w).set i u) hg
/-- The number kept, and the number deleted, are written. -/
theorem NowAt.setKeep {g B : Nat} {s : NS} {o : Value} {w : World} (h : NowAt g B s o w) (k : Int) : NowAt g B { s with keep := k } o (w.setCell ⟨g, 0, none⟩ (.int .i64 k)) := by
  obtain ⟨h1, h2, ⟨A, c, hr, ht⟩, ho⟩ := h
  refine ⟨h1, by simpa [World.setCell] using h2, ⟨A, c, (hr.set 0 (.int .i64 k)).congr fun i hi => ?_, own_set_below ht h1 _ _⟩, own_set_below ho h1 _ _⟩
  rcases (show i = 0 ∨ i = 1 ∨ i = 2 by omega) with rfl | rfl | rfl <;> rfl
theorem NowAt.setGone {g B : Nat} {s : NS} {o : Value} {w : World} (h : NowAt g B s o w) (k : Int) : NowAt g B { s with gone := k } o (w.setCell ⟨g, 2, none⟩ (.int .i64 k)) := by
  obtain ⟨h1, h2, ⟨A, c, hr, ht⟩, ho⟩ := h
  refine ⟨h1, by simpa [World.setCell] using h2, ⟨A, c, (hr.set 2 (.int .i64 k)).congr fun i hi => ?_, own_set_below ht h1 _ _⟩, own_set_below ho h1 _ _⟩
  rcases (show i = 0 ∨ i = 1 ∨ i = 2 by omega) with rfl | rfl | rfl <;> rfl
/-- The text that has grown is written back. -/
theorem NowAt.setText {g B : Nat} {s : NS} {o : Value} {t : List Nat} {A A' : Option Addr} {c c' : Nat} {w w1 : World} (h : NowAt g B s o w) (hown : w.ownsRow B 5 1 (.slice A s.text.length c) s.text.length (u8s s.text))
    (hg : w.grownBy w1 (Value.slice A s.text.length c).ownBlock) (hown1 : w1.ownsRow B 5 1 (.slice A' t.length c') t.length (u8s t)) :
    NowAt g B { s with text := t } o (w1.setCell ⟨g, 1, none⟩ (.slice A' t.length c')) ∧ Aside g B w (w1.setCell ⟨g, 1, none⟩ (.slice A' t.length c')) := by
  obtain ⟨h1, h2, ⟨A0, c0, hr, ht⟩, ho⟩ := h
  have hr1 : w1.rowIs g 48 3 (stCells s.keep A0 s.text.length c0 s.gone) := hr.of_block (hg.block g hr.lt (fun e => by have := (hown.lt g e.symm).1; omega))
  refine ⟨⟨h1, by simpa [World.setCell] using Nat.le_trans h2 hg.size, ⟨A', c', (hr1.set 1 (.slice A' t.length c')).congr fun i hi => ?_, own_set_below hown1 h1 _ _⟩, own_set_below (own_grown ho hown (by decide) hg) h1 _ _⟩, ((Aside.refl g B w).grown hg h2 (fun k e => (hown.lt k e).1)).set 1 _⟩
  rcases (show i = 0 ∨ i = 1 ∨ i = 2 by omega) with rfl | rfl | rfl <;> rfl
/-- s.text[:0] is still one's own. -/
theorem own_none {w : World} {B : Nat} {A : Option Addr} {n c : Nat} {xs : List Value} (h : w.ownsRow B 5 1 (.slice A n c) n xs) : w.ownsRow B 5 1 (.slice (addrHigh A c) 0 c) 0 (u8s []) := by
  refine ⟨rfl, ?_⟩
  rcases h.2 with ⟨h2, _⟩ | ⟨g', cap, cur, hv, hg, hh, h3, h4, h5, _⟩
  · injection h2 with e1 _ e3
    subst e1 e3
    exact .inl ⟨rfl, rfl⟩
  · injection hv with e1 _ e3
    subst e1 e3
    refine .inr ⟨g', c, cur, ?_, hg, hh, Nat.zero_le _, h4, h5, by simp [u8s]⟩
    unfold addrHigh
    split
    · rfl
    · simp [Addr.add]
/-- The stretch is begun anew. -/
theorem NowAt.begin {g B : Nat} {s : NS} {o : Value} {A : Option Addr} {c : Nat} {w : World} (h : NowAt g B s o w) (hown : w.ownsRow B 5 1 (.slice A s.text.length c) s.text.length (u8s s.text)) :
    NowAt g B ⟨s.out, 0, 0, []⟩ o (((w.setCell ⟨g, 0, none⟩ (.int .i64 0)).setCell ⟨g, 1, none⟩ (.slice (addrHigh A c) 0 c)).setCell ⟨g, 2, none⟩ (.int .i64 0)) := by
  obtain ⟨h1, h2, ⟨A0, c0, hr, ht⟩, ho⟩ := h
  refine ⟨h1, by simpa [World.setCell] using h2, ⟨addrHigh A c, c, (((hr.set 0 (.int .i64 0)).set 1 (.slice (addrHigh A c) 0 c)).set 2 (.int .i64 0)).congr fun i hi => ?_, own_set_below (own_set_below (own_set_below (own_none hown) h1 _ _) h1 _ _) h1 _ _⟩, own_set_below (own_set_below (own_set_below ho h1 _ _) h1 _ _) h1 _ _⟩
  rcases (show i = 0 ∨ i = 1 ∨ i = 2 by omega) with rfl | rfl | rfl <;> rfl

theorem wpList_push2 {ops : Array Oper} {rest : List Oper} {o : Oper} {a : Act} {w : World} {Q : Exit → Act → World → Prop} (hgd : o.guard = none) (s x : Operand)
    (ho : o.op = .call { callee := .builtin .append, args := #[s, x], argTypes := #[22, 22] })
    (B : Nat) (v : Value) (out : List CompV) (cr : CompV) (hs : a.eval s = v) (hown : w.ownsRow B 35 3 v out.length (out.flatMap compCells)) (hb : B ≤ w.heap.size)
    (hx : a.eval x = .slice (some ⟨w.heap.size, 0, none⟩) 1 1) (hlen : out.length ≤ 1099511627776)
    (h : ∀ out' A' c' w', out' = out ++ [cr] → w'.ownsRow B 35 3 (.slice A' out'.length c') out'.length (out'.flatMap compCells) → (w.alloc (.cells #[.int .i64 cr.kind, .int .i64 cr.n, .string (bstr cr.text)] 35)).grownBy w' v.ownBlock → wpList Try.prog ops Q rest (a.put o.dst (.slice A' out'.length c')) w') :
    wpList Try.prog ops Q (o :: rest) a (w.alloc (.cells #[.int .i64 cr.kind, .int .i64 cr.n, .string (bstr cr.text)] 35)) := by
  obtain ⟨i0, hi0, hz0, hz1, hz2⟩ := info_parts part_info
  refine wpList_append_own_wide _ hgd s x 22 ho B 35 i0 (.agg #[.int .i64 0, .int .i64 0, .string { data := #[] }]) 3 32 Try.underlying22 hi0 hz0 hz1 hz2 rfl (by omega) v out.length (out.flatMap compCells) hs (hown.alloc _) ⟨w.heap.size, 0, none⟩ 1 1 (compCells cr) hx rfl ?_ ?_ (by simp only [maxLen]; omega) (by omega) (by simp; omega) ?_
  · intro j u hj
    rw [Go.WideShapes.add_plain, Nat.zero_add, cell_of_row _ _ _ _ _ _ (heap_alloc_new w _)]
    simpa [compCells] using hj
  · intro u hu; simp [compCells] at hu; rcases hu with rfl | rfl | rfl <;> rfl
  intro v' w' hown' hgr _
  have e : out.flatMap compCells ++ compCells cr = (out ++ [cr]).flatMap compCells := by simp
  have hown2 : w'.ownsRow B 35 3 v' (out ++ [cr]).length ((out ++ [cr]).flatMap compCells) := by
    rw [← e, List.length_append]
    exact hown'
  obtain ⟨A', c', rfl⟩ := own_slice hown2
  exact h _ A' c' w' rfl hown2 hgr

set_option maxHeartbeats 1000000 in
set_option maxRecDepth 100000 in
theorem opBare_any (g B : Nat) (s : NS) (o : Value) (hg : 0 ≤ s.gone) (w : World) (h : NowAt g B s o w) :
    Calls Try.prog 32 #[.pointer (some ⟨g, 0, none⟩)] w fun e w' => e = .returned (.bool (decide (s.text = [] ∧ s.gone = 0))) ∧ w = w' := by
  obtain ⟨A, c, c0, c1, c2, _⟩ := h.read
  clear h
  obtain ⟨out, keep, gone, tx⟩ := s
  simp only at c0 c1 c2 hg ⊢
  cases tx with
  | nil =>
    simp only [List.length_nil] at c1
    by_cases hz : gone = 0
    · subst hz
      rw [show decide (([] : List Nat) = [] ∧ (0 : Int) = 0) = true by simp]
      go_enter Try.func32, Try.ntmps32
      go_wp2
      go_ret
      exact ⟨rfl, rfl⟩
    · have gz : (gone == 0) = false := beq_eq_false_iff_ne.2 hz
      rw [show decide (([] : List Nat) = [] ∧ gone = 0) = false by simp [hz]]
      clear hz
      go_enter Try.func32, Try.ntmps32
      go_wp2
      go_ret
      exact ⟨rfl, rfl⟩
  | cons x t =>
    rw [show decide (x :: t = [] ∧ gone = 0) = false by simp]
    rw [List.length_cons] at c1
    generalize t.length = n at c1
    have gz : (((n + 1 : Nat) : Int) == 0) = false := beq_eq_false_iff_ne.2 (by omega)
    go_enter Try.func32, Try.ntmps32
    go_wp2
    go_ret
    exact ⟨rfl, rfl⟩
end Go.Proofs.Ytgdojhccdicapaa
