/- The landed end of a stretch: what it kept, its text, and what is gone go behind what was made, and another one begins. Condition: no more than 2^38 parts and 2^40 bytes. (Merged of 2 texts.) -/
import Derived.Test.YtmedaimndaaiiaaMOm
import Derived.Test.YtmedaimndaaiiaaMTOpLen
import Derived.Test.YtmedaimndaaiiaaMTPush
import Derived.Lib.AppendStr
/- The landed stretch: where it lies, with the rows of its own; what lives on when a row grows. No condition beyond those that each lemma states. -/
namespace Go.Proofs.Ytmedaimndaaiiaa
open Go.RowKit Go.Deep Go.Lib

/-- Below B only the block g may have been written. -/
structure Aside (g B : Nat) (w w' : World) : Prop where
  os : w'.os = w.os
  tape : w'.tape = w.tape
  output : w'.output = w.output
  size : w.heap.size ≤ w'.heap.size
  block : ∀ k, k < B → k ≠ g → w'.heap[k]? = w.heap[k]?
theorem Aside.refl (g B : Nat) (w : World) : Aside g B w w := ⟨rfl, rfl, rfl, Nat.le_refl _, fun _ _ _ => rfl⟩
theorem Aside.trans {g B : Nat} {a b c : World} (h : Aside g B a b) (k : Aside g B b c) : Aside g B a c :=
  ⟨k.os.trans h.os, k.tape.trans h.tape, k.output.trans h.output, Nat.le_trans h.size k.size, fun i hi hg => (k.block i hi hg).trans (h.block i hi hg)⟩
theorem Aside.of_below {g B : Nat} {w w' : World} (h : Below w.heap.size w w') (hB : B ≤ w.heap.size) : Aside g B w w' := ⟨h.os, h.tape, h.output, h.size, fun k hk _ => h.block k (by omega)⟩
theorem Aside.grown {g B : Nat} {a w w' : World} {row : Option Nat} (h : Aside g B a w) (hg : w.grownBy w' row) (hB : B ≤ w.heap.size) (hr : ∀ k, row = some k → B ≤ k) : Aside g B a w' :=
  h.trans ⟨hg.os, hg.tape, hg.output, hg.size, fun k hk _ => hg.block k (by omega) (fun e => by have := hr k e.symm; omega)⟩
theorem Aside.set {g B : Nat} {a w : World} (h : Aside g B a w) (i : Nat) (v : Value) : Aside g B a (w.setCell ⟨g, i, none⟩ v) :=
  h.trans ⟨rfl, rfl, rfl, by simp [World.setCell], fun k _ hk => Below.heap_setCell _ _ _ _ hk⟩
/-- Nothing below the number h was written, if g is not below it. -/
theorem Aside.below {g B h : Nat} {W w w' : World} (k : Aside g B w w') (hb : Below h W w) (hg : h ≤ g) (hB : h ≤ B) : Below h W w' :=
  hb.trans ⟨k.os, k.tape, k.output, k.size, fun i hi => k.block i (by omega) (by omega)⟩

/-- The cells of a stretch. -/
def stCells (keep : Int) (A : Option Addr) (n c : Nat) (gone : Int) (i : Nat) : Value := if i = 0 then .int .i64 keep else if i = 1 then .slice A n c else .int .i64 gone
theorem own_set_below {w : World} {B g : Nat} {e : TypeId} {size : Nat} {v : Value} {n : Nat} {xs : List Value} (h : w.ownsRow B e size v n xs) (hg : g < B) (i : Nat) (u : Value) : (w.setCell ⟨g, i, none⟩ u).ownsRow B e size v n xs :=
  own_only h ((Only.refl g w).set i u) hg
/-- s.text[:0] is still one's own. -/
theorem own_none {w : World} {B : Nat} {A : Option Addr} {n c : Nat} {xs : List Value} (h : w.ownsRow B 5 1 (.slice A n c) n xs) : w.ownsRow B 5 1 (.slice (addrHigh A c) 0 c) 0 (u8s []) := by
  refine ⟨rfl, ?_⟩
  rcases h.2 with ⟨h2, _⟩ | ⟨g', cap, cur, hv, hg, hh, h3, h4, h5, _⟩
  · injection h2 with e1 _ e3
    subst e1 e3
    exact .inl ⟨rfl, rfl⟩
  · injection hv with e1 _ e3
    subst e1 e3
    refine .inr ⟨g', c, cur, ?_, hg, hh, Nat.zero_le _, h4, h5, by simp [u8s]⟩
    unfold addrHigh
    split
    · rfl
    · simp [Addr.add]
theorem wpList_push2 {ops : Array Oper} {rest : List Oper} {o : Oper} {a : Act} {w : World} {Q : Exit → Act → World → Prop} (hgd : o.guard = none) (s x : Operand)
    (ho : o.op = .call { callee := .builtin .append, args := #[s, x], argTypes := #[24, 24] })
    (B : Nat) (v : Value) (out : List CompV) (cr : CompV) (hs : a.eval s = v) (hown : w.ownsRow B 29 3 v out.length (out.flatMap compCells)) (hb : B ≤ w.heap.size)
    (hx : a.eval x = .slice (some ⟨w.heap.size, 0, none⟩) 1 1) (hlen : out.length ≤ 1099511627776)
    (h : ∀ out' A' c' w', out' = out ++ [cr] → w'.ownsRow B 29 3 (.slice A' out'.length c') out'.length (out'.flatMap compCells) → (w.alloc (.cells #[.int .i64 cr.kind, .int .i64 cr.n, .string (bstr cr.text)] 29)).grownBy w' v.ownBlock → wpList Try.prog ops Q rest (a.put o.dst (.slice A' out'.length c')) w') :
    wpList Try.prog ops Q (o :: rest) a (w.alloc (.cells #[.int .i64 cr.kind, .int .i64 cr.n, .string (bstr cr.text)] 29)) := by
  obtain ⟨i0, hi0, hz0, hz1, hz2⟩ := info_parts part_info
  refine wpList_append_own_wide _ hgd s x 24 ho B 29 i0 (.agg #[.int .i64 0, .int .i64 0, .string { data := #[] }]) 3 32 Try.underlying24 hi0 hz0 hz1 hz2 rfl (by omega) v out.length (out.flatMap compCells) hs (hown.alloc _) ⟨w.heap.size, 0, none⟩ 1 1 (compCells cr) hx rfl ?_ ?_ (by simp only [maxLen]; omega) (by omega) (by simp; omega) ?_
  · intro j u hj
    rw [Go.WideShapes.add_plain, Nat.zero_add, cell_of_row _ _ _ _ _ _ (heap_alloc_new w _)]
    simpa [compCells] using hj
  · intro u hu; simp [compCells] at hu; rcases hu with rfl | rfl | rfl <;> rfl
  intro v' w' hown' hgr _
  have e : out.flatMap compCells ++ compCells cr = (out ++ [cr]).flatMap compCells := by simp
  have hown2 : w'.ownsRow B 29 3 v' (out ++ [cr]).length ((out ++ [cr]).flatMap compCells) := by
    rw [← e, List.length_append]
    exact hown'
  obtain ⟨A', c', rfl⟩ := own_slice hown2
  exact h _ A' c' w' rfl hown2 hgr

end Go.Proofs.Ytmedaimndaaiiaa

/- The landed end of a stretch: what it kept, its text, and what is gone go behind what was made, and another one begins. Condition: no more than 2^38 parts and 2^40 bytes. -/
namespace Go.Proofs.Ytmedaimndaaiiaa
open Go.RowKit Go.Deep Go.Lib

end Go.Proofs.Ytmedaimndaaiiaa
