/- append of parts that lie anywhere onto a row of one part that was just laid. Condition: no more than 2^40 parts. -/
import Derived.Test.YtgdojhccdicapaaAppend
import Derived.Test.YtgdojhccdicapaaPush
namespace Go.Proofs.Ytgdojhccdicapaa
open Go.RowKit Go.Deep

theorem wpList_join {ops : Array Oper} {rest : List Oper} {o : Oper} {a : Act} {w : World} {Q : Exit → Act → World → Prop} (hgd : o.guard = none) (s x : Operand)
    (ho : o.op = .call { callee := .builtin .append, args := #[s, x], argTypes := #[22, 22] })
    (cr : CompV) (hs : a.eval s = .slice (some ⟨w.heap.size, 0, none⟩) 1 1) (A : Option Addr) (c : Nat) (l : List CompV) (hx : a.eval x = .slice A l.length c) (hat : CompsAt w A l) (hlen : l.length ≤ 1099511627776)
    (h : ∀ out' A' c' w', out' = cr :: l → w'.ownsRow w.heap.size 35 3 (.slice A' out'.length c') out'.length (out'.flatMap compCells) → Below w.heap.size w w' → wpList Try.prog ops Q rest (a.put o.dst (.slice A' out'.length c')) w') :
    wpList Try.prog ops Q (o :: rest) a (w.alloc (.cells #[.int .i64 cr.kind, .int .i64 cr.n, .string (bstr cr.text)] 35)) := by
  obtain ⟨i0, hi0, hz0, hz1, hz2⟩ := info_parts part_info
  have hown : (w.alloc (.cells #[.int .i64 cr.kind, .int .i64 cr.n, .string (bstr cr.text)] 35)).ownsRow w.heap.size 35 3 (.slice (some ⟨w.heap.size, 0, none⟩) 1 1) 1 (compCells cr) :=
    World.ownsRow_lit w #[.int .i64 cr.kind, .int .i64 cr.n, .string (bstr cr.text)] 1 (Nat.le_refl _) (by simp [maxLen]) rfl
  refine wpList_append_cells hgd s x 22 ho w.heap.size 35 i0 (.agg #[.int .i64 0, .int .i64 0, .string { data := #[] }]) 3 32 Try.underlying22 hi0 hz0 hz1 hz2 rfl (by omega) _ 1 (compCells cr) hs hown A l.length c (l.flatMap compCells) hx ?_ (CellsAt.alloc hat _) ?_ (by simp only [maxLen]; omega) (by omega) (by simp) ?_
  · exact flat_length compCells 3 compCells_length l
  · intro u hu
    obtain ⟨y, _, hu⟩ := List.mem_flatMap.1 hu
    simp [compCells] at hu; rcases hu with rfl | rfl | rfl <;> rfl
  intro v' w' hown' hgr
  have hown2 : w'.ownsRow w.heap.size 35 3 v' (cr :: l).length ((cr :: l).flatMap compCells) := by
    rw [List.flatMap_cons, List.length_cons, Nat.add_comm]
    exact hown'
  obtain ⟨A', c', rfl⟩ := own_slice hown2
  exact h _ A' c' w' rfl hown2 (((Below.refl _ w).alloc (Nat.le_refl _) _).grown hgr (by simp) (fun k hk => (hown.lt k hk).1))
end Go.Proofs.Ytgdojhccdicapaa
