/-
  No cell of these rows narrows 'for every input' (looked for: loops, veiled, ifaces, maps, wideKeys, modest, calm, conditions, laid).
  DERIVED. THE GIVEN ROWS OF THIS SEAT. 4 by the template 'for every input the law returns true; each argument reads behind the call as it read before'; 0 by the template 'total and deterministic' (their statements: YtigmgnoiinljpaaTotals.lean).
  GIVEN WITH THE SEED: the statements are not yours to turn. If you find one false, say at which input.
  Laid BY PROGRAM, IN A SANDBOX (cutbox-rows.mjs): the forced cells as the released guide's own fill.sh prints them over the translation 6d5430ac1e8abbd4… (all of the seat's roots in one cut). By AI agents, Wed Nov 11 2026. No macro, syntax, notation, axiom, sorry.
-/
import Derived.Test.YtigmgnoiinljpaaChecked
import GoSem.Claim
import GoSem.ClaimJoined
import GoSem.ClaimMapViews
import Derived.JoinedTies
import Derived.KernelRfl
namespace Go.Proofs.Ytigmgnoiinljpaa
/- THE CELL 'sum', in the pinned program and in every row, IS THE sha256 OF THE DUMP (.gsa) THAT YtigmgnoiinljpaaProg.lean LOADS. Nothing in Lean hashes anything: it is a label: what it is worth is what the hold of that sum in a sandbox is worth. -/
noncomputable def Try.pinned : Pinned := { name := "ytigmgnoiinljpaa", sum := "6d5430ac1e8abbd4e07cd74b716df03cab4f0a210f599d9bb948eb78be13060d", checked := Try.checked }
namespace Rows
def none {H : Type} : Left H := { results := [], args := [] }

/-- 'ropewalklaw11.CursorAsks': WHATEVER THE INPUT: true; the input reads as it did. -/
def cursorAsksSpec : ChangeSpec := { name := "cursorAsks", fn := fun _ => fun
  | [d1, d2, d3, d4] => { results := [.lit (.bool true)], args := [d1, d2, d3, d4] }
  | _ => none }
def cursorAsksRow : OpenClaim := { program := "ytigmgnoiinljpaa", sum := "6d5430ac1e8abbd4e07cd74b716df03cab4f0a210f599d9bb948eb78be13060d", func := "ropewalk/ropewalklaw11.CursorAsks", spec := "cursorAsks", inPlace := ["math.archTrunc", "math.Float64bits", "math.Float64frombits"], unfollowed := true, recurses := true, apart := false }
def CursorAsksSaid : Prop := cursorAsksRow.holds Try.pinned (OpenSpec.ofChange cursorAsksSpec)

/-- ITS FALSE NEIGHBOUR: 'it returns false'. Refute it at one input. -/
def cursorAsksWrong : ChangeSpec := { name := "cursorAsks", fn := fun _ => fun
  | [d1, d2, d3, d4] => { results := [.lit (.bool false)], args := [d1, d2, d3, d4] }
  | _ => none }
def CursorAsksWrongFalsely : Prop := cursorAsksRow.holds Try.pinned (OpenSpec.ofChange cursorAsksWrong)

/-- 'ropewalklaw11.CursorOdd': WHATEVER THE INPUT: true; the input reads as it did. -/
def cursorOddSpec : ChangeSpec := { name := "cursorOdd", fn := fun _ => fun
  | [d1, d2, d3] => { results := [.lit (.bool true)], args := [d1, d2, d3] }
  | _ => none }
def cursorOddRow : OpenClaim := { program := "ytigmgnoiinljpaa", sum := "6d5430ac1e8abbd4e07cd74b716df03cab4f0a210f599d9bb948eb78be13060d", func := "ropewalk/ropewalklaw11.CursorOdd", spec := "cursorOdd", inPlace := ["math.archTrunc", "math.Float64bits", "math.Float64frombits"], unfollowed := true, recurses := true, apart := false }
def CursorOddSaid : Prop := cursorOddRow.holds Try.pinned (OpenSpec.ofChange cursorOddSpec)

/-- ITS FALSE NEIGHBOUR: 'it returns false'. Refute it at one input. -/
def cursorOddWrong : ChangeSpec := { name := "cursorOdd", fn := fun _ => fun
  | [d1, d2, d3] => { results := [.lit (.bool false)], args := [d1, d2, d3] }
  | _ => none }
def CursorOddWrongFalsely : Prop := cursorOddRow.holds Try.pinned (OpenSpec.ofChange cursorOddWrong)

/-- 'ropewalklaw11.CursorThrough': WHATEVER THE INPUT: true; the input reads as it did. -/
def cursorThroughSpec : ChangeSpec := { name := "cursorThrough", fn := fun _ => fun
  | [d1, d2, d3, d4] => { results := [.lit (.bool true)], args := [d1, d2, d3, d4] }
  | _ => none }
def cursorThroughRow : OpenClaim := { program := "ytigmgnoiinljpaa", sum := "6d5430ac1e8abbd4e07cd74b716df03cab4f0a210f599d9bb948eb78be13060d", func := "ropewalk/ropewalklaw11.CursorThrough", spec := "cursorThrough", inPlace := ["math.archTrunc", "math.Float64bits", "math.Float64frombits"], unfollowed := true, recurses := true, apart := false }
def CursorThroughSaid : Prop := cursorThroughRow.holds Try.pinned (OpenSpec.ofChange cursorThroughSpec)

/-- ITS FALSE NEIGHBOUR: 'it returns false'. Refute it at one input. -/
def cursorThroughWrong : ChangeSpec := { name := "cursorThrough", fn := fun _ => fun
  | [d1, d2, d3, d4] => { results := [.lit (.bool false)], args := [d1, d2, d3, d4] }
  | _ => none }
def CursorThroughWrongFalsely : Prop := cursorThroughRow.holds Try.pinned (OpenSpec.ofChange cursorThroughWrong)

/-- 'ropewalklaw11.CursorStays': WHATEVER THE INPUT: true; the input reads as it did. -/
def cursorStaysSpec : ChangeSpec := { name := "cursorStays", fn := fun _ => fun
  | [d1, d2, d3, d4, d5, d6] => { results := [.lit (.bool true)], args := [d1, d2, d3, d4, d5, d6] }
  | _ => none }
def cursorStaysRow : OpenClaim := { program := "ytigmgnoiinljpaa", sum := "6d5430ac1e8abbd4e07cd74b716df03cab4f0a210f599d9bb948eb78be13060d", func := "ropewalk/ropewalklaw11.CursorStays", spec := "cursorStays", inPlace := ["math.archTrunc", "math.Float64bits", "math.Float64frombits"], unfollowed := true, recurses := true, apart := false }
def CursorStaysSaid : Prop := cursorStaysRow.holds Try.pinned (OpenSpec.ofChange cursorStaysSpec)

/-- ITS FALSE NEIGHBOUR: 'it returns false'. Refute it at one input. -/
def cursorStaysWrong : ChangeSpec := { name := "cursorStays", fn := fun _ => fun
  | [d1, d2, d3, d4, d5, d6] => { results := [.lit (.bool false)], args := [d1, d2, d3, d4, d5, d6] }
  | _ => none }
def CursorStaysWrongFalsely : Prop := cursorStaysRow.holds Try.pinned (OpenSpec.ofChange cursorStaysWrong)

/- THE SECOND FORM. 'bulk': how many values and letters a reading holds, each counted each time it is reached (what is shared counts as often as it is met; a slice's spare places count too). A statement '..UptoSaid' is the law's where the arguments, and the package variables that the reading takes, are together of bulk at most 1048576: NARROWER than '..Said'. Prove '..Said' where nothing that the law and all that it calls make is longer than what came in: it says more and counts as full. Else prove '..UptoSaid'. A law counts once. -/
mutual
def uptoBulk {H : Type} : DataW H → Nat
  | .lit (.string bytes) => bytes.length + 1
  | .lit _ => 1
  | .nil => 1
  | .ptr d => uptoBulk d + 1
  | .slice elems spare => uptoBulkAll elems + uptoBulkAll spare + 1
  | .agg parts => uptoBulkAll parts + 1
  | .iface _ d => uptoBulk d + 1
  | .map entries => uptoBulkEntries entries + 1
  | .held _ => 1
def uptoBulkAll {H : Type} : List (DataW H) → Nat
  | [] => 0
  | d :: r => uptoBulk d + uptoBulkAll r
def uptoBulkEntries {H : Type} : List (Lit × DataW H) → Nat
  | [] => 0
  | x :: r => uptoBulkEntry x + uptoBulkEntries r
def uptoBulkEntry {H : Type} : Lit × DataW H → Nat
  | (.string bytes, d) => bytes.length + uptoBulk d + 1
  | (_, d) => uptoBulk d + 1
 end
def uptoSmall : (H : Type) → List (DataW H) → Bool := fun _ ds => decide (uptoBulkAll ds ≤ 1048576)
def OpenSpec.upto (s : _root_.Go.ChangeSpec) : _root_.Go.OpenSpec := { _root_.Go.OpenSpec.ofChange s with cond := some uptoSmall }

/-- 'ropewalklaw11.CursorAsks', WHERE WHAT IT READS IS OF BULK AT MOST 1048576: true; the input reads as it did. -/
def cursorAsksUptoRow : OpenClaim := { program := "ytigmgnoiinljpaa", sum := "6d5430ac1e8abbd4e07cd74b716df03cab4f0a210f599d9bb948eb78be13060d", func := "ropewalk/ropewalklaw11.CursorAsks", spec := "cursorAsks", inPlace := ["math.archTrunc", "math.Float64bits", "math.Float64frombits"], unfollowed := true, recurses := true, apart := false, narrowed := true }
def CursorAsksUptoSaid : Prop := cursorAsksUptoRow.holds Try.pinned (OpenSpec.upto cursorAsksSpec)

/-- 'ropewalklaw11.CursorOdd', WHERE WHAT IT READS IS OF BULK AT MOST 1048576: true; the input reads as it did. -/
def cursorOddUptoRow : OpenClaim := { program := "ytigmgnoiinljpaa", sum := "6d5430ac1e8abbd4e07cd74b716df03cab4f0a210f599d9bb948eb78be13060d", func := "ropewalk/ropewalklaw11.CursorOdd", spec := "cursorOdd", inPlace := ["math.archTrunc", "math.Float64bits", "math.Float64frombits"], unfollowed := true, recurses := true, apart := false, narrowed := true }
def CursorOddUptoSaid : Prop := cursorOddUptoRow.holds Try.pinned (OpenSpec.upto cursorOddSpec)

/-- 'ropewalklaw11.CursorThrough', WHERE WHAT IT READS IS OF BULK AT MOST 1048576: true; the input reads as it did. -/
def cursorThroughUptoRow : OpenClaim := { program := "ytigmgnoiinljpaa", sum := "6d5430ac1e8abbd4e07cd74b716df03cab4f0a210f599d9bb948eb78be13060d", func := "ropewalk/ropewalklaw11.CursorThrough", spec := "cursorThrough", inPlace := ["math.archTrunc", "math.Float64bits", "math.Float64frombits"], unfollowed := true, recurses := true, apart := false, narrowed := true }
def CursorThroughUptoSaid : Prop := cursorThroughUptoRow.holds Try.pinned (OpenSpec.upto cursorThroughSpec)

/-- 'ropewalklaw11.CursorStays', WHERE WHAT IT READS IS OF BULK AT MOST 1048576: true; the input reads as it did. -/
def cursorStaysUptoRow : OpenClaim := { program := "ytigmgnoiinljpaa", sum := "6d5430ac1e8abbd4e07cd74b716df03cab4f0a210f599d9bb948eb78be13060d", func := "ropewalk/ropewalklaw11.CursorStays", spec := "cursorStays", inPlace := ["math.archTrunc", "math.Float64bits", "math.Float64frombits"], unfollowed := true, recurses := true, apart := false, narrowed := true }
def CursorStaysUptoSaid : Prop := cursorStaysUptoRow.holds Try.pinned (OpenSpec.upto cursorStaysSpec)

end Rows
end Go.Proofs.Ytigmgnoiinljpaa
