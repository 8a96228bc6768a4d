/-
  No cell of these rows narrows 'for every input' (looked for: loops, veiled, ifaces, maps, wideKeys, modest, calm, conditions, laid).
  DERIVED. THE GIVEN ROWS OF THIS SEAT. 4 by the template 'for every input the law returns true; each argument reads behind the call as it read before'; 0 by the template 'total and deterministic' (their statements: YtfbkdabnbddgpaaTotals.lean).
  GIVEN WITH THE SEED: the statements are not yours to turn. If you find one false, say at which input.
  Laid BY PROGRAM, IN A SANDBOX (cutbox-rows.mjs): the forced cells as the released guide's own fill.sh prints them over the translation 4216572c118c1c97… (all of the seat's roots in one cut). By AI agents, Wed Nov 11 2026. No macro, syntax, notation, axiom, sorry.
-/
import Derived.Test.YtfbkdabnbddgpaaChecked
import GoSem.Claim
import GoSem.ClaimJoined
import GoSem.ClaimMapViews
import Derived.JoinedTies
import Derived.KernelRfl
namespace Go.Proofs.Ytfbkdabnbddgpaa
/- THE CELL 'sum', in the pinned program and in every row, IS THE sha256 OF THE DUMP (.gsa) THAT YtfbkdabnbddgpaaProg.lean LOADS. Nothing in Lean hashes anything: it is a label: what it is worth is what the hold of that sum in a sandbox is worth. -/
noncomputable def Try.pinned : Pinned := { name := "ytfbkdabnbddgpaa", sum := "4216572c118c1c976aab1b0aa6edfd37018937b5ba05bd87747cb2652ae77297", checked := Try.checked }
namespace Rows
def none {H : Type} : Left H := { results := [], args := [] }

/-- 'ropewalklaw8.ApplyAsks': WHATEVER THE INPUT: true; the input reads as it did. -/
def applyAsksSpec : ChangeSpec := { name := "applyAsks", fn := fun _ => fun
  | [d1, d2, d3] => { results := [.lit (.bool true)], args := [d1, d2, d3] }
  | _ => none }
def applyAsksRow : OpenClaim := { program := "ytfbkdabnbddgpaa", sum := "4216572c118c1c976aab1b0aa6edfd37018937b5ba05bd87747cb2652ae77297", func := "ropewalk/ropewalklaw8.ApplyAsks", spec := "applyAsks", inPlace := ["internal/abi.NoEscape"], unfollowed := true, recurses := true, apart := false }
def ApplyAsksSaid : Prop := applyAsksRow.holds Try.pinned (OpenSpec.ofChange applyAsksSpec)

/-- ITS FALSE NEIGHBOUR: 'it returns false'. Refute it at one input. -/
def applyAsksWrong : ChangeSpec := { name := "applyAsks", fn := fun _ => fun
  | [d1, d2, d3] => { results := [.lit (.bool false)], args := [d1, d2, d3] }
  | _ => none }
def ApplyAsksWrongFalsely : Prop := applyAsksRow.holds Try.pinned (OpenSpec.ofChange applyAsksWrong)

/-- 'ropewalklaw8.ApplyBack': WHATEVER THE INPUT: true; the input reads as it did. -/
def applyBackSpec : ChangeSpec := { name := "applyBack", fn := fun _ => fun
  | [d1, d2, d3] => { results := [.lit (.bool true)], args := [d1, d2, d3] }
  | _ => none }
def applyBackRow : OpenClaim := { program := "ytfbkdabnbddgpaa", sum := "4216572c118c1c976aab1b0aa6edfd37018937b5ba05bd87747cb2652ae77297", func := "ropewalk/ropewalklaw8.ApplyBack", spec := "applyBack", inPlace := ["internal/abi.NoEscape"], unfollowed := true, recurses := true, apart := false }
def ApplyBackSaid : Prop := applyBackRow.holds Try.pinned (OpenSpec.ofChange applyBackSpec)

/-- ITS FALSE NEIGHBOUR: 'it returns false'. Refute it at one input. -/
def applyBackWrong : ChangeSpec := { name := "applyBack", fn := fun _ => fun
  | [d1, d2, d3] => { results := [.lit (.bool false)], args := [d1, d2, d3] }
  | _ => none }
def ApplyBackWrongFalsely : Prop := applyBackRow.holds Try.pinned (OpenSpec.ofChange applyBackWrong)

/-- 'ropewalklaw8.ApplyKeeps': WHATEVER THE INPUT: true; the input reads as it did. -/
def applyKeepsSpec : ChangeSpec := { name := "applyKeeps", fn := fun _ => fun
  | [d1, d2] => { results := [.lit (.bool true)], args := [d1, d2] }
  | _ => none }
def applyKeepsRow : OpenClaim := { program := "ytfbkdabnbddgpaa", sum := "4216572c118c1c976aab1b0aa6edfd37018937b5ba05bd87747cb2652ae77297", func := "ropewalk/ropewalklaw8.ApplyKeeps", spec := "applyKeeps", inPlace := ["internal/abi.NoEscape"], unfollowed := true, recurses := true, apart := false }
def ApplyKeepsSaid : Prop := applyKeepsRow.holds Try.pinned (OpenSpec.ofChange applyKeepsSpec)

/-- ITS FALSE NEIGHBOUR: 'it returns false'. Refute it at one input. -/
def applyKeepsWrong : ChangeSpec := { name := "applyKeeps", fn := fun _ => fun
  | [d1, d2] => { results := [.lit (.bool false)], args := [d1, d2] }
  | _ => none }
def ApplyKeepsWrongFalsely : Prop := applyKeepsRow.holds Try.pinned (OpenSpec.ofChange applyKeepsWrong)

/-- 'ropewalklaw8.ApplyDiffs': WHATEVER THE INPUT: true; the input reads as it did. -/
def applyDiffsSpec : ChangeSpec := { name := "applyDiffs", fn := fun _ => fun
  | [d1, d2, d3, d4] => { results := [.lit (.bool true)], args := [d1, d2, d3, d4] }
  | _ => none }
def applyDiffsRow : OpenClaim := { program := "ytfbkdabnbddgpaa", sum := "4216572c118c1c976aab1b0aa6edfd37018937b5ba05bd87747cb2652ae77297", func := "ropewalk/ropewalklaw8.ApplyDiffs", spec := "applyDiffs", inPlace := ["internal/abi.NoEscape"], unfollowed := true, recurses := true, apart := false }
def ApplyDiffsSaid : Prop := applyDiffsRow.holds Try.pinned (OpenSpec.ofChange applyDiffsSpec)

/-- ITS FALSE NEIGHBOUR: 'it returns false'. Refute it at one input. -/
def applyDiffsWrong : ChangeSpec := { name := "applyDiffs", fn := fun _ => fun
  | [d1, d2, d3, d4] => { results := [.lit (.bool false)], args := [d1, d2, d3, d4] }
  | _ => none }
def ApplyDiffsWrongFalsely : Prop := applyDiffsRow.holds Try.pinned (OpenSpec.ofChange applyDiffsWrong)

/- THE SECOND FORM. 'bulk': how many values and letters a reading holds, each counted each time it is reached (what is shared counts as often as it is met; a slice's spare places count too). A statement '..UptoSaid' is the law's where the arguments, and the package variables that the reading takes, are together of bulk at most 1048576: NARROWER than '..Said'. Prove '..Said' where nothing that the law and all that it calls make is longer than what came in: it says more and counts as full. Else prove '..UptoSaid'. A law counts once. -/
mutual
def uptoBulk {H : Type} : DataW H → Nat
  | .lit (.string bytes) => bytes.length + 1
  | .lit _ => 1
  | .nil => 1
  | .ptr d => uptoBulk d + 1
  | .slice elems spare => uptoBulkAll elems + uptoBulkAll spare + 1
  | .agg parts => uptoBulkAll parts + 1
  | .iface _ d => uptoBulk d + 1
  | .map entries => uptoBulkEntries entries + 1
  | .held _ => 1
def uptoBulkAll {H : Type} : List (DataW H) → Nat
  | [] => 0
  | d :: r => uptoBulk d + uptoBulkAll r
def uptoBulkEntries {H : Type} : List (Lit × DataW H) → Nat
  | [] => 0
  | x :: r => uptoBulkEntry x + uptoBulkEntries r
def uptoBulkEntry {H : Type} : Lit × DataW H → Nat
  | (.string bytes, d) => bytes.length + uptoBulk d + 1
  | (_, d) => uptoBulk d + 1
 end
def uptoSmall : (H : Type) → List (DataW H) → Bool := fun _ ds => decide (uptoBulkAll ds ≤ 1048576)
def OpenSpec.upto (s : _root_.Go.ChangeSpec) : _root_.Go.OpenSpec := { _root_.Go.OpenSpec.ofChange s with cond := some uptoSmall }

/-- 'ropewalklaw8.ApplyAsks', WHERE WHAT IT READS IS OF BULK AT MOST 1048576: true; the input reads as it did. -/
def applyAsksUptoRow : OpenClaim := { program := "ytfbkdabnbddgpaa", sum := "4216572c118c1c976aab1b0aa6edfd37018937b5ba05bd87747cb2652ae77297", func := "ropewalk/ropewalklaw8.ApplyAsks", spec := "applyAsks", inPlace := ["internal/abi.NoEscape"], unfollowed := true, recurses := true, apart := false, narrowed := true }
def ApplyAsksUptoSaid : Prop := applyAsksUptoRow.holds Try.pinned (OpenSpec.upto applyAsksSpec)

/-- 'ropewalklaw8.ApplyBack', WHERE WHAT IT READS IS OF BULK AT MOST 1048576: true; the input reads as it did. -/
def applyBackUptoRow : OpenClaim := { program := "ytfbkdabnbddgpaa", sum := "4216572c118c1c976aab1b0aa6edfd37018937b5ba05bd87747cb2652ae77297", func := "ropewalk/ropewalklaw8.ApplyBack", spec := "applyBack", inPlace := ["internal/abi.NoEscape"], unfollowed := true, recurses := true, apart := false, narrowed := true }
def ApplyBackUptoSaid : Prop := applyBackUptoRow.holds Try.pinned (OpenSpec.upto applyBackSpec)

/-- 'ropewalklaw8.ApplyKeeps', WHERE WHAT IT READS IS OF BULK AT MOST 1048576: true; the input reads as it did. -/
def applyKeepsUptoRow : OpenClaim := { program := "ytfbkdabnbddgpaa", sum := "4216572c118c1c976aab1b0aa6edfd37018937b5ba05bd87747cb2652ae77297", func := "ropewalk/ropewalklaw8.ApplyKeeps", spec := "applyKeeps", inPlace := ["internal/abi.NoEscape"], unfollowed := true, recurses := true, apart := false, narrowed := true }
def ApplyKeepsUptoSaid : Prop := applyKeepsUptoRow.holds Try.pinned (OpenSpec.upto applyKeepsSpec)

/-- 'ropewalklaw8.ApplyDiffs', WHERE WHAT IT READS IS OF BULK AT MOST 1048576: true; the input reads as it did. -/
def applyDiffsUptoRow : OpenClaim := { program := "ytfbkdabnbddgpaa", sum := "4216572c118c1c976aab1b0aa6edfd37018937b5ba05bd87747cb2652ae77297", func := "ropewalk/ropewalklaw8.ApplyDiffs", spec := "applyDiffs", inPlace := ["internal/abi.NoEscape"], unfollowed := true, recurses := true, apart := false, narrowed := true }
def ApplyDiffsUptoSaid : Prop := applyDiffsUptoRow.holds Try.pinned (OpenSpec.upto applyDiffsSpec)

end Rows
end Go.Proofs.Ytfbkdabnbddgpaa
