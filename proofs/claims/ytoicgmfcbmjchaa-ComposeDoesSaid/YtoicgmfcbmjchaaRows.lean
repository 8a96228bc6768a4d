/-
  No cell of these rows narrows 'for every input' (looked for: loops, veiled, ifaces, maps, wideKeys, modest, calm, conditions, laid).
  DERIVED. THE GIVEN ROWS OF THIS SEAT. 4 by the template 'for every input the law returns true; each argument reads behind the call as it read before'; 0 by the template 'total and deterministic' (their statements: YtoicgmfcbmjchaaTotals.lean).
  GIVEN WITH THE SEED: the statements are not yours to turn. If you find one false, say at which input.
  Laid BY PROGRAM, IN A SANDBOX (cutbox-rows.mjs): the forced cells as the released guide's own fill.sh prints them over the translation 54d0072fbf593871… (all of the seat's roots in one cut). By AI agents, Wed Nov 11 2026. No macro, syntax, notation, axiom, sorry.
-/
import Derived.Test.YtoicgmfcbmjchaaChecked
import GoSem.Claim
import GoSem.ClaimJoined
import GoSem.ClaimMapViews
import Derived.JoinedTies
import Derived.KernelRfl
namespace Go.Proofs.Ytoicgmfcbmjchaa
/- THE CELL 'sum', in the pinned program and in every row, IS THE sha256 OF THE DUMP (.gsa) THAT YtoicgmfcbmjchaaProg.lean LOADS. Nothing in Lean hashes anything: it is a label: what it is worth is what the hold of that sum in a sandbox is worth. -/
noncomputable def Try.pinned : Pinned := { name := "ytoicgmfcbmjchaa", sum := "54d0072fbf59387133b0109f88e657b1e17eeee0c0419c34161fe410ad6d2364", checked := Try.checked }
namespace Rows
def none {H : Type} : Left H := { results := [], args := [] }

/-- 'ropewalklaw9.ComposeAsks': WHATEVER THE INPUT: true; the input reads as it did. -/
def composeAsksSpec : ChangeSpec := { name := "composeAsks", fn := fun _ => fun
  | [d1, d2, d3, d4] => { results := [.lit (.bool true)], args := [d1, d2, d3, d4] }
  | _ => none }
def composeAsksRow : OpenClaim := { program := "ytoicgmfcbmjchaa", sum := "54d0072fbf59387133b0109f88e657b1e17eeee0c0419c34161fe410ad6d2364", func := "ropewalk/ropewalklaw9.ComposeAsks", spec := "composeAsks", unfollowed := true, recurses := true, apart := false }
def ComposeAsksSaid : Prop := composeAsksRow.holds Try.pinned (OpenSpec.ofChange composeAsksSpec)

/-- ITS FALSE NEIGHBOUR: 'it returns false'. Refute it at one input. -/
def composeAsksWrong : ChangeSpec := { name := "composeAsks", fn := fun _ => fun
  | [d1, d2, d3, d4] => { results := [.lit (.bool false)], args := [d1, d2, d3, d4] }
  | _ => none }
def ComposeAsksWrongFalsely : Prop := composeAsksRow.holds Try.pinned (OpenSpec.ofChange composeAsksWrong)

/-- 'ropewalklaw9.ComposeDoes': WHATEVER THE INPUT: true; the input reads as it did. -/
def composeDoesSpec : ChangeSpec := { name := "composeDoes", fn := fun _ => fun
  | [d1, d2, d3, d4] => { results := [.lit (.bool true)], args := [d1, d2, d3, d4] }
  | _ => none }
def composeDoesRow : OpenClaim := { program := "ytoicgmfcbmjchaa", sum := "54d0072fbf59387133b0109f88e657b1e17eeee0c0419c34161fe410ad6d2364", func := "ropewalk/ropewalklaw9.ComposeDoes", spec := "composeDoes", inPlace := ["internal/abi.NoEscape"], unfollowed := true, recurses := true, apart := false }
def ComposeDoesSaid : Prop := composeDoesRow.holds Try.pinned (OpenSpec.ofChange composeDoesSpec)

/-- ITS FALSE NEIGHBOUR: 'it returns false'. Refute it at one input. -/
def composeDoesWrong : ChangeSpec := { name := "composeDoes", fn := fun _ => fun
  | [d1, d2, d3, d4] => { results := [.lit (.bool false)], args := [d1, d2, d3, d4] }
  | _ => none }
def ComposeDoesWrongFalsely : Prop := composeDoesRow.holds Try.pinned (OpenSpec.ofChange composeDoesWrong)

/-- 'ropewalklaw9.ComposeUndo': WHATEVER THE INPUT: true; the input reads as it did. -/
def composeUndoSpec : ChangeSpec := { name := "composeUndo", fn := fun _ => fun
  | [d1, d2] => { results := [.lit (.bool true)], args := [d1, d2] }
  | _ => none }
def composeUndoRow : OpenClaim := { program := "ytoicgmfcbmjchaa", sum := "54d0072fbf59387133b0109f88e657b1e17eeee0c0419c34161fe410ad6d2364", func := "ropewalk/ropewalklaw9.ComposeUndo", spec := "composeUndo", inPlace := ["internal/abi.NoEscape"], unfollowed := true, recurses := true, apart := false }
def ComposeUndoSaid : Prop := composeUndoRow.holds Try.pinned (OpenSpec.ofChange composeUndoSpec)

/-- ITS FALSE NEIGHBOUR: 'it returns false'. Refute it at one input. -/
def composeUndoWrong : ChangeSpec := { name := "composeUndo", fn := fun _ => fun
  | [d1, d2] => { results := [.lit (.bool false)], args := [d1, d2] }
  | _ => none }
def ComposeUndoWrongFalsely : Prop := composeUndoRow.holds Try.pinned (OpenSpec.ofChange composeUndoWrong)

/-- 'ropewalklaw9.ComposeRow': WHATEVER THE INPUT: true; the input reads as it did. -/
def composeRowSpec : ChangeSpec := { name := "composeRow", fn := fun _ => fun
  | [d1, d2, d3] => { results := [.lit (.bool true)], args := [d1, d2, d3] }
  | _ => none }
def composeRowRow : OpenClaim := { program := "ytoicgmfcbmjchaa", sum := "54d0072fbf59387133b0109f88e657b1e17eeee0c0419c34161fe410ad6d2364", func := "ropewalk/ropewalklaw9.ComposeRow", spec := "composeRow", inPlace := ["internal/abi.NoEscape"], unfollowed := true, recurses := true, apart := false }
def ComposeRowSaid : Prop := composeRowRow.holds Try.pinned (OpenSpec.ofChange composeRowSpec)

/-- ITS FALSE NEIGHBOUR: 'it returns false'. Refute it at one input. -/
def composeRowWrong : ChangeSpec := { name := "composeRow", fn := fun _ => fun
  | [d1, d2, d3] => { results := [.lit (.bool false)], args := [d1, d2, d3] }
  | _ => none }
def ComposeRowWrongFalsely : Prop := composeRowRow.holds Try.pinned (OpenSpec.ofChange composeRowWrong)

/- THE SECOND FORM. 'bulk': how many values and letters a reading holds, each counted each time it is reached (what is shared counts as often as it is met; a slice's spare places count too). A statement '..UptoSaid' is the law's where the arguments, and the package variables that the reading takes, are together of bulk at most 1048576: NARROWER than '..Said'. Prove '..Said' where nothing that the law and all that it calls make is longer than what came in: it says more and counts as full. Else prove '..UptoSaid'. A law counts once. -/
mutual
def uptoBulk {H : Type} : DataW H → Nat
  | .lit (.string bytes) => bytes.length + 1
  | .lit _ => 1
  | .nil => 1
  | .ptr d => uptoBulk d + 1
  | .slice elems spare => uptoBulkAll elems + uptoBulkAll spare + 1
  | .agg parts => uptoBulkAll parts + 1
  | .iface _ d => uptoBulk d + 1
  | .map entries => uptoBulkEntries entries + 1
  | .held _ => 1
def uptoBulkAll {H : Type} : List (DataW H) → Nat
  | [] => 0
  | d :: r => uptoBulk d + uptoBulkAll r
def uptoBulkEntries {H : Type} : List (Lit × DataW H) → Nat
  | [] => 0
  | x :: r => uptoBulkEntry x + uptoBulkEntries r
def uptoBulkEntry {H : Type} : Lit × DataW H → Nat
  | (.string bytes, d) => bytes.length + uptoBulk d + 1
  | (_, d) => uptoBulk d + 1
 end
def uptoSmall : (H : Type) → List (DataW H) → Bool := fun _ ds => decide (uptoBulkAll ds ≤ 1048576)
def OpenSpec.upto (s : _root_.Go.ChangeSpec) : _root_.Go.OpenSpec := { _root_.Go.OpenSpec.ofChange s with cond := some uptoSmall }

/-- 'ropewalklaw9.ComposeAsks', WHERE WHAT IT READS IS OF BULK AT MOST 1048576: true; the input reads as it did. -/
def composeAsksUptoRow : OpenClaim := { program := "ytoicgmfcbmjchaa", sum := "54d0072fbf59387133b0109f88e657b1e17eeee0c0419c34161fe410ad6d2364", func := "ropewalk/ropewalklaw9.ComposeAsks", spec := "composeAsks", unfollowed := true, recurses := true, apart := false, narrowed := true }
def ComposeAsksUptoSaid : Prop := composeAsksUptoRow.holds Try.pinned (OpenSpec.upto composeAsksSpec)

/-- 'ropewalklaw9.ComposeDoes', WHERE WHAT IT READS IS OF BULK AT MOST 1048576: true; the input reads as it did. -/
def composeDoesUptoRow : OpenClaim := { program := "ytoicgmfcbmjchaa", sum := "54d0072fbf59387133b0109f88e657b1e17eeee0c0419c34161fe410ad6d2364", func := "ropewalk/ropewalklaw9.ComposeDoes", spec := "composeDoes", inPlace := ["internal/abi.NoEscape"], unfollowed := true, recurses := true, apart := false, narrowed := true }
def ComposeDoesUptoSaid : Prop := composeDoesUptoRow.holds Try.pinned (OpenSpec.upto composeDoesSpec)

/-- 'ropewalklaw9.ComposeUndo', WHERE WHAT IT READS IS OF BULK AT MOST 1048576: true; the input reads as it did. -/
def composeUndoUptoRow : OpenClaim := { program := "ytoicgmfcbmjchaa", sum := "54d0072fbf59387133b0109f88e657b1e17eeee0c0419c34161fe410ad6d2364", func := "ropewalk/ropewalklaw9.ComposeUndo", spec := "composeUndo", inPlace := ["internal/abi.NoEscape"], unfollowed := true, recurses := true, apart := false, narrowed := true }
def ComposeUndoUptoSaid : Prop := composeUndoUptoRow.holds Try.pinned (OpenSpec.upto composeUndoSpec)

/-- 'ropewalklaw9.ComposeRow', WHERE WHAT IT READS IS OF BULK AT MOST 1048576: true; the input reads as it did. -/
def composeRowUptoRow : OpenClaim := { program := "ytoicgmfcbmjchaa", sum := "54d0072fbf59387133b0109f88e657b1e17eeee0c0419c34161fe410ad6d2364", func := "ropewalk/ropewalklaw9.ComposeRow", spec := "composeRow", inPlace := ["internal/abi.NoEscape"], unfollowed := true, recurses := true, apart := false, narrowed := true }
def ComposeRowUptoSaid : Prop := composeRowUptoRow.holds Try.pinned (OpenSpec.upto composeRowSpec)

end Rows
end Go.Proofs.Ytoicgmfcbmjchaa
