/- The document's own Plain. No condition. (Merged of 2 texts.) -/
import Derived.Test.YtmedaimndaaiiaaMOm
import Derived.Test.YtmedaimndaaiiaaMMono
import Derived.Test.YtmedaimndaaiiaaMCells
import Derived.Test.YtmedaimndaaiiaaMTxm
import Derived.Laws.Rows
/- The document's own Same, Idle, Keep of parts. Condition: no slice is longer than memory. -/
namespace Go.Proofs.Ytmedaimndaaiiaa
open Go.RowKit Go.Deep

/-- Two edits are the same. -/
noncomputable def sameB (l m : List CompV) : Bool := @decide (l = m) (Classical.propDecidable _)
theorem sameB_yes {l m : List CompV} (h : l = m) : sameB l m = true := by unfold sameB; exact @decide_eq_true _ (Classical.propDecidable _) h
theorem sameB_no {l m : List CompV} (h : ¬ l = m) : sameB l m = false := by unfold sameB; exact @decide_eq_false _ (Classical.propDecidable _) h
theorem sameB_self (l : List CompV) : sameB l l = true := sameB_yes rfl

/-- An edit that does nothing. -/
def idleB (l : List CompV) : Bool := l.all fun c => !(c.kind == 2 || c.kind == 3)
/-- An edit that keeps all. -/
def keepL (n : Int) : List CompV := if n < 1 then [] else [⟨1, n, []⟩]
end Go.Proofs.Ytmedaimndaaiiaa

/- The document's own Plain. No condition. -/
namespace Go.Proofs.Ytmedaimndaaiiaa
open Go.RowKit Go.Deep

theorem two_new (w : World) (x y : Obj) : ((w.alloc x).alloc y).heap[w.heap.size + 1]? = some y := by
  have := heap_alloc_new (w.alloc x) y
  rwa [World.size_alloc] at this
end Go.Proofs.Ytmedaimndaaiiaa
