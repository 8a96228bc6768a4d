/- A row of cells that was just laid. No condition. -/
import Derived.Test.YtfbkdabnbddgpaaCells
namespace Go.Proofs.Ytfbkdabnbddgpaa
open Go.RowKit Go.Deep

theorem CellsAt.lit {w : World} {cs : Array Value} {t : TypeId} {fr : Nat × Nat} {l : List Value} {g : Nat} (hc : ∀ (j : Nat) (v : Value), l[j]? = some v → cs[j]? = some v) (hg : g = w.heap.size) : CellsAt (w.alloc (.cells cs t fr)) (some ⟨g, 0, none⟩) l := by
  subst hg
  exact .inr ⟨w.heap.size, 0, rfl, by simp, fun j v hv => by rw [Nat.zero_add, cell_of_row _ _ _ cs t fr (heap_alloc_new w _), hc j v hv]⟩
end Go.Proofs.Ytfbkdabnbddgpaa
