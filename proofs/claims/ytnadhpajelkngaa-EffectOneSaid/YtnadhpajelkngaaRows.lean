/-
  No cell of these rows narrows 'for every input' (looked for: loops, veiled, ifaces, maps, wideKeys, modest, calm, conditions, laid).
  DERIVED. THE GIVEN ROWS OF THIS SEAT. 3 by the template 'for every input the law returns true; each argument reads behind the call as it read before'; 0 by the template 'total and deterministic' (their statements: YtnadhpajelkngaaTotals.lean).
  GIVEN WITH THE SEED: the statements are not yours to turn. If you find one false, say at which input.
  Laid BY PROGRAM, IN A SANDBOX (cutbox-rows.mjs): the forced cells as the released guide's own fill.sh prints them over the translation 45f97d802a14c039… (all of the seat's roots in one cut). By AI agents, Wed Nov 11 2026. No macro, syntax, notation, axiom, sorry.
-/
import Derived.Test.YtnadhpajelkngaaChecked
import GoSem.Claim
import GoSem.ClaimJoined
import GoSem.ClaimMapViews
import Derived.JoinedTies
import Derived.KernelRfl
namespace Go.Proofs.Ytnadhpajelkngaa
/- THE CELL 'sum', in the pinned program and in every row, IS THE sha256 OF THE DUMP (.gsa) THAT YtnadhpajelkngaaProg.lean LOADS. Nothing in Lean hashes anything: it is a label: what it is worth is what the hold of that sum in a sandbox is worth. -/
noncomputable def Try.pinned : Pinned := { name := "ytnadhpajelkngaa", sum := "45f97d802a14c039ecc5b59fe7be0b785f9493d5d788aef8b4ef47974f4d0837", checked := Try.checked }
namespace Rows
def none {H : Type} : Left H := { results := [], args := [] }

/-- 'ropewalklaw15.EffectSees': WHATEVER THE INPUT: true; the input reads as it did. -/
def effectSeesSpec : ChangeSpec := { name := "effectSees", fn := fun _ => fun
  | [d1, d2, d3] => { results := [.lit (.bool true)], args := [d1, d2, d3] }
  | _ => none }
def effectSeesRow : OpenClaim := { program := "ytnadhpajelkngaa", sum := "45f97d802a14c039ecc5b59fe7be0b785f9493d5d788aef8b4ef47974f4d0837", func := "ropewalk/ropewalklaw15.EffectSees", spec := "effectSees", unfollowed := true, recurses := true, apart := false }
def EffectSeesSaid : Prop := effectSeesRow.holds Try.pinned (OpenSpec.ofChange effectSeesSpec)

/-- ITS FALSE NEIGHBOUR: 'it returns false'. Refute it at one input. -/
def effectSeesWrong : ChangeSpec := { name := "effectSees", fn := fun _ => fun
  | [d1, d2, d3] => { results := [.lit (.bool false)], args := [d1, d2, d3] }
  | _ => none }
def EffectSeesWrongFalsely : Prop := effectSeesRow.holds Try.pinned (OpenSpec.ofChange effectSeesWrong)

/-- 'ropewalklaw15.EffectOne': WHATEVER THE INPUT: true; the input reads as it did. -/
def effectOneSpec : ChangeSpec := { name := "effectOne", fn := fun _ => fun
  | [d] => { results := [.lit (.bool true)], args := [d] }
  | _ => none }
def effectOneRow : OpenClaim := { program := "ytnadhpajelkngaa", sum := "45f97d802a14c039ecc5b59fe7be0b785f9493d5d788aef8b4ef47974f4d0837", func := "ropewalk/ropewalklaw15.EffectOne", spec := "effectOne", unfollowed := true, recurses := true, apart := false }
def EffectOneSaid : Prop := effectOneRow.holds Try.pinned (OpenSpec.ofChange effectOneSpec)

/-- ITS FALSE NEIGHBOUR: 'it returns false'. Refute it at one input. -/
def effectOneWrong : ChangeSpec := { name := "effectOne", fn := fun _ => fun
  | [d] => { results := [.lit (.bool false)], args := [d] }
  | _ => none }
def EffectOneWrongFalsely : Prop := effectOneRow.holds Try.pinned (OpenSpec.ofChange effectOneWrong)

/-- 'ropewalklaw15.EffectKeeps': WHATEVER THE INPUT: true; the input reads as it did. -/
def effectKeepsSpec : ChangeSpec := { name := "effectKeeps", fn := fun _ => fun
  | [d1, d2] => { results := [.lit (.bool true)], args := [d1, d2] }
  | _ => none }
def effectKeepsRow : OpenClaim := { program := "ytnadhpajelkngaa", sum := "45f97d802a14c039ecc5b59fe7be0b785f9493d5d788aef8b4ef47974f4d0837", func := "ropewalk/ropewalklaw15.EffectKeeps", spec := "effectKeeps", unfollowed := true, recurses := true, apart := false }
def EffectKeepsSaid : Prop := effectKeepsRow.holds Try.pinned (OpenSpec.ofChange effectKeepsSpec)

/-- ITS FALSE NEIGHBOUR: 'it returns false'. Refute it at one input. -/
def effectKeepsWrong : ChangeSpec := { name := "effectKeeps", fn := fun _ => fun
  | [d1, d2] => { results := [.lit (.bool false)], args := [d1, d2] }
  | _ => none }
def EffectKeepsWrongFalsely : Prop := effectKeepsRow.holds Try.pinned (OpenSpec.ofChange effectKeepsWrong)

/- THE SECOND FORM. 'bulk': how many values and letters a reading holds, each counted each time it is reached (what is shared counts as often as it is met; a slice's spare places count too). A statement '..UptoSaid' is the law's where the arguments, and the package variables that the reading takes, are together of bulk at most 1048576: NARROWER than '..Said'. Prove '..Said' where nothing that the law and all that it calls make is longer than what came in: it says more and counts as full. Else prove '..UptoSaid'. A law counts once. -/
mutual
def uptoBulk {H : Type} : DataW H → Nat
  | .lit (.string bytes) => bytes.length + 1
  | .lit _ => 1
  | .nil => 1
  | .ptr d => uptoBulk d + 1
  | .slice elems spare => uptoBulkAll elems + uptoBulkAll spare + 1
  | .agg parts => uptoBulkAll parts + 1
  | .iface _ d => uptoBulk d + 1
  | .map entries => uptoBulkEntries entries + 1
  | .held _ => 1
def uptoBulkAll {H : Type} : List (DataW H) → Nat
  | [] => 0
  | d :: r => uptoBulk d + uptoBulkAll r
def uptoBulkEntries {H : Type} : List (Lit × DataW H) → Nat
  | [] => 0
  | x :: r => uptoBulkEntry x + uptoBulkEntries r
def uptoBulkEntry {H : Type} : Lit × DataW H → Nat
  | (.string bytes, d) => bytes.length + uptoBulk d + 1
  | (_, d) => uptoBulk d + 1
 end
def uptoSmall : (H : Type) → List (DataW H) → Bool := fun _ ds => decide (uptoBulkAll ds ≤ 1048576)
def OpenSpec.upto (s : _root_.Go.ChangeSpec) : _root_.Go.OpenSpec := { _root_.Go.OpenSpec.ofChange s with cond := some uptoSmall }

/-- 'ropewalklaw15.EffectSees', WHERE WHAT IT READS IS OF BULK AT MOST 1048576: true; the input reads as it did. -/
def effectSeesUptoRow : OpenClaim := { program := "ytnadhpajelkngaa", sum := "45f97d802a14c039ecc5b59fe7be0b785f9493d5d788aef8b4ef47974f4d0837", func := "ropewalk/ropewalklaw15.EffectSees", spec := "effectSees", unfollowed := true, recurses := true, apart := false, narrowed := true }
def EffectSeesUptoSaid : Prop := effectSeesUptoRow.holds Try.pinned (OpenSpec.upto effectSeesSpec)

/-- 'ropewalklaw15.EffectOne', WHERE WHAT IT READS IS OF BULK AT MOST 1048576: true; the input reads as it did. -/
def effectOneUptoRow : OpenClaim := { program := "ytnadhpajelkngaa", sum := "45f97d802a14c039ecc5b59fe7be0b785f9493d5d788aef8b4ef47974f4d0837", func := "ropewalk/ropewalklaw15.EffectOne", spec := "effectOne", unfollowed := true, recurses := true, apart := false, narrowed := true }
def EffectOneUptoSaid : Prop := effectOneUptoRow.holds Try.pinned (OpenSpec.upto effectOneSpec)

/-- 'ropewalklaw15.EffectKeeps', WHERE WHAT IT READS IS OF BULK AT MOST 1048576: true; the input reads as it did. -/
def effectKeepsUptoRow : OpenClaim := { program := "ytnadhpajelkngaa", sum := "45f97d802a14c039ecc5b59fe7be0b785f9493d5d788aef8b4ef47974f4d0837", func := "ropewalk/ropewalklaw15.EffectKeeps", spec := "effectKeeps", unfollowed := true, recurses := true, apart := false, narrowed := true }
def EffectKeepsUptoSaid : Prop := effectKeepsUptoRow.holds Try.pinned (OpenSpec.upto effectKeepsSpec)

end Rows
end Go.Proofs.Ytnadhpajelkngaa
