/- The document's own Children: IDs by their names. Conditions: no more than 2^20 nodes, nodes that may be. (Merged of 8 texts.) -/
import Derived.Test.YtmedaimndaaiiaaMCells
import Derived.Deep.QuietTactic
import Derived.BigQuiet
import Derived.Test.YtmedaimndaaiiaaMNd
import Derived.Test.YtmedaimndaaiiaaMApp
import Derived.Test.YtmedaimndaaiiaaMPt
import Derived.Test.YtmedaimndaaiiaaMMono
import Derived.BigRegion
import Derived.Deep.CutRange
import Derived.Deep.CutBlock
/- The contract of alike.Ints, over two slices that read alike. Condition: no slice is longer than memory. -/
namespace Go.Proofs.Ytmedaimndaaiiaa
open Go.RowKit Go.Deep

theorem below_drewN {B : Nat} {w x : World} (h : Below B w x) (n : Nat) : Below B w (x.drewN n) := ⟨h.os, h.tape, h.output, h.size, h.block⟩
end Go.Proofs.Ytmedaimndaaiiaa

/- The document's own Do, over nodes: a move that is done. Conditions: as RefNDo's. -/
namespace Go.Proofs.Ytmedaimndaaiiaa
open Go.RowKit Go.Deep

end Go.Proofs.Ytmedaimndaaiiaa

/- The document's own Do, over nodes: a node that is there is taken away, or held. Conditions: as RefNDo's. -/
namespace Go.Proofs.Ytmedaimndaaiiaa
open Go.RowKit Go.Deep
def nGone : Sched Nat := (.quiet 1 (.quiet 2 (.quiet 3 (.quiet 5 (.quiet 6 (.quiet 7 (.quiet 8 (.one 0 (.one 4 (.one 9 (.quiet 10 (.quiet 11 .done))))))))))))

end Go.Proofs.Ytmedaimndaaiiaa

/- The document's own Do, over nodes: an edit of a node that is there. Conditions: as RefNDo's; texts of no more than 2^30 bytes. -/
namespace Go.Proofs.Ytmedaimndaaiiaa
open Go.RowKit Go.Deep

end Go.Proofs.Ytmedaimndaaiiaa

/- The document's own Do, over nodes: a node is created. Conditions: as RefNDo's. -/
namespace Go.Proofs.Ytmedaimndaaiiaa
open Go.RowKit Go.Deep
def nNew0 : Sched Nat := (.one 7 (.one 11 (.quiet 12 (.quiet 13 .done))))
def nNew1 : Sched Nat := (.one 4 nNew0)
def nNew : Sched Nat := (.quiet 1 (.quiet 2 (.quiet 3 (.quiet 5 (.quiet 8 (.quiet 9 (.quiet 10 (.two 0 (.two 4 (.one 6 nNew0) 6 nNew1) 6 (.one 0 nNew1)))))))))

end Go.Proofs.Ytmedaimndaaiiaa

/- The document's own Do, over nodes: all its ways together. Conditions: no more than 2^20 nodes, nodes and acts that may be, texts of no more than 2^30 bytes. -/
namespace Go.Proofs.Ytmedaimndaaiiaa
open Go.RowKit Go.Deep

end Go.Proofs.Ytmedaimndaaiiaa

/- The document's own SameNodes: two lists of nodes. Condition: no slice is longer than memory. -/
namespace Go.Proofs.Ytmedaimndaaiiaa
open Go.RowKit Go.Deep

end Go.Proofs.Ytmedaimndaaiiaa

/- The document's own Children: IDs by their names. Conditions: no more than 2^20 nodes, nodes that may be. -/
namespace Go.Proofs.Ytmedaimndaaiiaa
open Go.RowKit Go.Deep
def nKid0 : Sched Nat := (.one 11 (.one 15 (.quiet 16 .done)))
def nKid1 : Sched Nat := (.one 4 nKid0)
def nKid : Sched Nat := (.quiet 1 (.quiet 2 (.quiet 3 (.quiet 5 (.quiet 6 (.quiet 7 (.quiet 8 (.quiet 9 (.quiet 12 (.quiet 13 (.quiet 14 (.two 0 (.two 4 (.one 10 nKid0) 10 nKid1) 10 (.one 0 nKid1)))))))))))))
theorem kids_le {l : List NodeV} {p : Int} {n : Nat} (h : n ≤ l.length) : (kids l p n).length ≤ n := by
  rw [kids_length h]
  exact Nat.le_trans (List.length_filter_le _ _) (by rw [List.length_take]; omega)

end Go.Proofs.Ytmedaimndaaiiaa
