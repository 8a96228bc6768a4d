/-
  No cell of these rows narrows 'for every input' (looked for: loops, veiled, ifaces, maps, wideKeys, modest, calm, conditions, laid).
  DERIVED. THE GIVEN ROWS OF THIS SEAT. 4 by the template 'for every input the law returns true; each argument reads behind the call as it read before'; 0 by the template 'total and deterministic' (their statements: YtgdojhccdicapaaTotals.lean).
  GIVEN WITH THE SEED: the statements are not yours to turn. If you find one false, say at which input.
  Laid BY PROGRAM, IN A SANDBOX (cutbox-rows.mjs): the forced cells as the released guide's own fill.sh prints them over the translation 3241b01d7ebbf00a… (all of the seat's roots in one cut). By AI agents, Wed Nov 11 2026. No macro, syntax, notation, axiom, sorry.
-/
import Derived.Test.YtgdojhccdicapaaChecked
import GoSem.Claim
import GoSem.ClaimJoined
import GoSem.ClaimMapViews
import Derived.JoinedTies
import Derived.KernelRfl
namespace Go.Proofs.Ytgdojhccdicapaa
/- THE CELL 'sum', in the pinned program and in every row, IS THE sha256 OF THE DUMP (.gsa) THAT YtgdojhccdicapaaProg.lean LOADS. Nothing in Lean hashes anything: it is a label: what it is worth is what the hold of that sum in a sandbox is worth. -/
noncomputable def Try.pinned : Pinned := { name := "ytgdojhccdicapaa", sum := "3241b01d7ebbf00ab634e916d1ec4aa09755f5d192991fbd22fd46a966b89ffd", checked := Try.checked }
namespace Rows
def none {H : Type} : Left H := { results := [], args := [] }

/-- 'ropewalklaw7.OpAsks': WHATEVER THE INPUT: true; the input reads as it did. -/
def opAsksSpec : ChangeSpec := { name := "opAsks", fn := fun _ => fun
  | [d1, d2, d3] => { results := [.lit (.bool true)], args := [d1, d2, d3] }
  | _ => none }
def opAsksRow : OpenClaim := { program := "ytgdojhccdicapaa", sum := "3241b01d7ebbf00ab634e916d1ec4aa09755f5d192991fbd22fd46a966b89ffd", func := "ropewalk/ropewalklaw7.OpAsks", spec := "opAsks", unfollowed := true, recurses := true, apart := false }
def OpAsksSaid : Prop := opAsksRow.holds Try.pinned (OpenSpec.ofChange opAsksSpec)

/-- ITS FALSE NEIGHBOUR: 'it returns false'. Refute it at one input. -/
def opAsksWrong : ChangeSpec := { name := "opAsks", fn := fun _ => fun
  | [d1, d2, d3] => { results := [.lit (.bool false)], args := [d1, d2, d3] }
  | _ => none }
def OpAsksWrongFalsely : Prop := opAsksRow.holds Try.pinned (OpenSpec.ofChange opAsksWrong)

/-- 'ropewalklaw7.OpNormal': WHATEVER THE INPUT: true; the input reads as it did. -/
def opNormalSpec : ChangeSpec := { name := "opNormal", fn := fun _ => fun
  | [d] => { results := [.lit (.bool true)], args := [d] }
  | _ => none }
def opNormalRow : OpenClaim := { program := "ytgdojhccdicapaa", sum := "3241b01d7ebbf00ab634e916d1ec4aa09755f5d192991fbd22fd46a966b89ffd", func := "ropewalk/ropewalklaw7.OpNormal", spec := "opNormal", unfollowed := true, recurses := true, apart := false }
def OpNormalSaid : Prop := opNormalRow.holds Try.pinned (OpenSpec.ofChange opNormalSpec)

/-- ITS FALSE NEIGHBOUR: 'it returns false'. Refute it at one input. -/
def opNormalWrong : ChangeSpec := { name := "opNormal", fn := fun _ => fun
  | [d] => { results := [.lit (.bool false)], args := [d] }
  | _ => none }
def OpNormalWrongFalsely : Prop := opNormalRow.holds Try.pinned (OpenSpec.ofChange opNormalWrong)

/-- 'ropewalklaw7.OpOf': WHATEVER THE INPUT: true; the input reads as it did. -/
def opOfSpec : ChangeSpec := { name := "opOf", fn := fun _ => fun
  | [d1, d2, d3, d4] => { results := [.lit (.bool true)], args := [d1, d2, d3, d4] }
  | _ => none }
def opOfRow : OpenClaim := { program := "ytgdojhccdicapaa", sum := "3241b01d7ebbf00ab634e916d1ec4aa09755f5d192991fbd22fd46a966b89ffd", func := "ropewalk/ropewalklaw7.OpOf", spec := "opOf", unfollowed := true, recurses := true, apart := false }
def OpOfSaid : Prop := opOfRow.holds Try.pinned (OpenSpec.ofChange opOfSpec)

/-- ITS FALSE NEIGHBOUR: 'it returns false'. Refute it at one input. -/
def opOfWrong : ChangeSpec := { name := "opOf", fn := fun _ => fun
  | [d1, d2, d3, d4] => { results := [.lit (.bool false)], args := [d1, d2, d3, d4] }
  | _ => none }
def OpOfWrongFalsely : Prop := opOfRow.holds Try.pinned (OpenSpec.ofChange opOfWrong)

/-- 'ropewalklaw7.OpLimits': WHATEVER THE INPUT: true; the input reads as it did. -/
def opLimitsSpec : ChangeSpec := { name := "opLimits", fn := fun _ => fun
  | [d1, d2, d3] => { results := [.lit (.bool true)], args := [d1, d2, d3] }
  | _ => none }
def opLimitsRow : OpenClaim := { program := "ytgdojhccdicapaa", sum := "3241b01d7ebbf00ab634e916d1ec4aa09755f5d192991fbd22fd46a966b89ffd", func := "ropewalk/ropewalklaw7.OpLimits", spec := "opLimits", unfollowed := true, recurses := true, apart := false }
def OpLimitsSaid : Prop := opLimitsRow.holds Try.pinned (OpenSpec.ofChange opLimitsSpec)

/-- ITS FALSE NEIGHBOUR: 'it returns false'. Refute it at one input. -/
def opLimitsWrong : ChangeSpec := { name := "opLimits", fn := fun _ => fun
  | [d1, d2, d3] => { results := [.lit (.bool false)], args := [d1, d2, d3] }
  | _ => none }
def OpLimitsWrongFalsely : Prop := opLimitsRow.holds Try.pinned (OpenSpec.ofChange opLimitsWrong)

/- THE SECOND FORM. 'bulk': how many values and letters a reading holds, each counted each time it is reached (what is shared counts as often as it is met; a slice's spare places count too). A statement '..UptoSaid' is the law's where the arguments, and the package variables that the reading takes, are together of bulk at most 1048576: NARROWER than '..Said'. Prove '..Said' where nothing that the law and all that it calls make is longer than what came in: it says more and counts as full. Else prove '..UptoSaid'. A law counts once. -/
mutual
def uptoBulk {H : Type} : DataW H → Nat
  | .lit (.string bytes) => bytes.length + 1
  | .lit _ => 1
  | .nil => 1
  | .ptr d => uptoBulk d + 1
  | .slice elems spare => uptoBulkAll elems + uptoBulkAll spare + 1
  | .agg parts => uptoBulkAll parts + 1
  | .iface _ d => uptoBulk d + 1
  | .map entries => uptoBulkEntries entries + 1
  | .held _ => 1
def uptoBulkAll {H : Type} : List (DataW H) → Nat
  | [] => 0
  | d :: r => uptoBulk d + uptoBulkAll r
def uptoBulkEntries {H : Type} : List (Lit × DataW H) → Nat
  | [] => 0
  | x :: r => uptoBulkEntry x + uptoBulkEntries r
def uptoBulkEntry {H : Type} : Lit × DataW H → Nat
  | (.string bytes, d) => bytes.length + uptoBulk d + 1
  | (_, d) => uptoBulk d + 1
 end
def uptoSmall : (H : Type) → List (DataW H) → Bool := fun _ ds => decide (uptoBulkAll ds ≤ 1048576)
def OpenSpec.upto (s : _root_.Go.ChangeSpec) : _root_.Go.OpenSpec := { _root_.Go.OpenSpec.ofChange s with cond := some uptoSmall }

/-- 'ropewalklaw7.OpAsks', WHERE WHAT IT READS IS OF BULK AT MOST 1048576: true; the input reads as it did. -/
def opAsksUptoRow : OpenClaim := { program := "ytgdojhccdicapaa", sum := "3241b01d7ebbf00ab634e916d1ec4aa09755f5d192991fbd22fd46a966b89ffd", func := "ropewalk/ropewalklaw7.OpAsks", spec := "opAsks", unfollowed := true, recurses := true, apart := false, narrowed := true }
def OpAsksUptoSaid : Prop := opAsksUptoRow.holds Try.pinned (OpenSpec.upto opAsksSpec)

/-- 'ropewalklaw7.OpNormal', WHERE WHAT IT READS IS OF BULK AT MOST 1048576: true; the input reads as it did. -/
def opNormalUptoRow : OpenClaim := { program := "ytgdojhccdicapaa", sum := "3241b01d7ebbf00ab634e916d1ec4aa09755f5d192991fbd22fd46a966b89ffd", func := "ropewalk/ropewalklaw7.OpNormal", spec := "opNormal", unfollowed := true, recurses := true, apart := false, narrowed := true }
def OpNormalUptoSaid : Prop := opNormalUptoRow.holds Try.pinned (OpenSpec.upto opNormalSpec)

/-- 'ropewalklaw7.OpOf', WHERE WHAT IT READS IS OF BULK AT MOST 1048576: true; the input reads as it did. -/
def opOfUptoRow : OpenClaim := { program := "ytgdojhccdicapaa", sum := "3241b01d7ebbf00ab634e916d1ec4aa09755f5d192991fbd22fd46a966b89ffd", func := "ropewalk/ropewalklaw7.OpOf", spec := "opOf", unfollowed := true, recurses := true, apart := false, narrowed := true }
def OpOfUptoSaid : Prop := opOfUptoRow.holds Try.pinned (OpenSpec.upto opOfSpec)

/-- 'ropewalklaw7.OpLimits', WHERE WHAT IT READS IS OF BULK AT MOST 1048576: true; the input reads as it did. -/
def opLimitsUptoRow : OpenClaim := { program := "ytgdojhccdicapaa", sum := "3241b01d7ebbf00ab634e916d1ec4aa09755f5d192991fbd22fd46a966b89ffd", func := "ropewalk/ropewalklaw7.OpLimits", spec := "opLimits", unfollowed := true, recurses := true, apart := false, narrowed := true }
def OpLimitsUptoSaid : Prop := opLimitsUptoRow.holds Try.pinned (OpenSpec.upto opLimitsSpec)

end Rows
end Go.Proofs.Ytgdojhccdicapaa
