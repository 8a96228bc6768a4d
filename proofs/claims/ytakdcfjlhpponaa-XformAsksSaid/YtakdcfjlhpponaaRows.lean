/-
  No cell of these rows narrows 'for every input' (looked for: loops, veiled, ifaces, maps, wideKeys, modest, calm, conditions, laid).
  DERIVED. THE GIVEN ROWS OF THIS SEAT. 5 by the template 'for every input the law returns true; each argument reads behind the call as it read before'; 0 by the template 'total and deterministic' (their statements: YtakdcfjlhpponaaTotals.lean).
  GIVEN WITH THE SEED: the statements are not yours to turn. If you find one false, say at which input.
  Laid BY PROGRAM, IN A SANDBOX (cutbox-rows.mjs): the forced cells as the released guide's own fill.sh prints them over the translation 65165c88809922a9… (all of the seat's roots in one cut). By AI agents, Wed Nov 11 2026. No macro, syntax, notation, axiom, sorry.
-/
import Derived.Test.YtakdcfjlhpponaaChecked
import GoSem.Claim
import GoSem.ClaimJoined
import GoSem.ClaimMapViews
import Derived.JoinedTies
import Derived.KernelRfl
namespace Go.Proofs.Ytakdcfjlhpponaa
/- THE CELL 'sum', in the pinned program and in every row, IS THE sha256 OF THE DUMP (.gsa) THAT YtakdcfjlhpponaaProg.lean LOADS. Nothing in Lean hashes anything: it is a label: what it is worth is what the hold of that sum in a sandbox is worth. -/
noncomputable def Try.pinned : Pinned := { name := "ytakdcfjlhpponaa", sum := "65165c88809922a91e3979f21fdd6471fea282b30aac1535d8eba7e61865dd06", checked := Try.checked }
namespace Rows
def none {H : Type} : Left H := { results := [], args := [] }

/-- 'ropewalklaw10.XformAsks': WHATEVER THE INPUT: true; the input reads as it did. -/
def xformAsksSpec : ChangeSpec := { name := "xformAsks", fn := fun _ => fun
  | [d1, d2, d3, d4] => { results := [.lit (.bool true)], args := [d1, d2, d3, d4] }
  | _ => none }
def xformAsksRow : OpenClaim := { program := "ytakdcfjlhpponaa", sum := "65165c88809922a91e3979f21fdd6471fea282b30aac1535d8eba7e61865dd06", func := "ropewalk/ropewalklaw10.XformAsks", spec := "xformAsks", unfollowed := true, recurses := true, apart := false }
def XformAsksSaid : Prop := xformAsksRow.holds Try.pinned (OpenSpec.ofChange xformAsksSpec)

/-- ITS FALSE NEIGHBOUR: 'it returns false'. Refute it at one input. -/
def xformAsksWrong : ChangeSpec := { name := "xformAsks", fn := fun _ => fun
  | [d1, d2, d3, d4] => { results := [.lit (.bool false)], args := [d1, d2, d3, d4] }
  | _ => none }
def XformAsksWrongFalsely : Prop := xformAsksRow.holds Try.pinned (OpenSpec.ofChange xformAsksWrong)

/-- 'ropewalklaw10.XformMeets': WHATEVER THE INPUT: true; the input reads as it did. -/
def xformMeetsSpec : ChangeSpec := { name := "xformMeets", fn := fun _ => fun
  | [d1, d2, d3, d4] => { results := [.lit (.bool true)], args := [d1, d2, d3, d4] }
  | _ => none }
def xformMeetsRow : OpenClaim := { program := "ytakdcfjlhpponaa", sum := "65165c88809922a91e3979f21fdd6471fea282b30aac1535d8eba7e61865dd06", func := "ropewalk/ropewalklaw10.XformMeets", spec := "xformMeets", inPlace := ["internal/abi.NoEscape"], unfollowed := true, recurses := true, apart := false }
def XformMeetsSaid : Prop := xformMeetsRow.holds Try.pinned (OpenSpec.ofChange xformMeetsSpec)

/-- ITS FALSE NEIGHBOUR: 'it returns false'. Refute it at one input. -/
def xformMeetsWrong : ChangeSpec := { name := "xformMeets", fn := fun _ => fun
  | [d1, d2, d3, d4] => { results := [.lit (.bool false)], args := [d1, d2, d3, d4] }
  | _ => none }
def XformMeetsWrongFalsely : Prop := xformMeetsRow.holds Try.pinned (OpenSpec.ofChange xformMeetsWrong)

/-- 'ropewalklaw10.XformKeeps': WHATEVER THE INPUT: true; the input reads as it did. -/
def xformKeepsSpec : ChangeSpec := { name := "xformKeeps", fn := fun _ => fun
  | [d1, d2, d3, d4] => { results := [.lit (.bool true)], args := [d1, d2, d3, d4] }
  | _ => none }
def xformKeepsRow : OpenClaim := { program := "ytakdcfjlhpponaa", sum := "65165c88809922a91e3979f21fdd6471fea282b30aac1535d8eba7e61865dd06", func := "ropewalk/ropewalklaw10.XformKeeps", spec := "xformKeeps", inPlace := ["internal/abi.NoEscape"], unfollowed := true, recurses := true, apart := false }
def XformKeepsSaid : Prop := xformKeepsRow.holds Try.pinned (OpenSpec.ofChange xformKeepsSpec)

/-- ITS FALSE NEIGHBOUR: 'it returns false'. Refute it at one input. -/
def xformKeepsWrong : ChangeSpec := { name := "xformKeeps", fn := fun _ => fun
  | [d1, d2, d3, d4] => { results := [.lit (.bool false)], args := [d1, d2, d3, d4] }
  | _ => none }
def XformKeepsWrongFalsely : Prop := xformKeepsRow.holds Try.pinned (OpenSpec.ofChange xformKeepsWrong)

/-- 'ropewalklaw10.XformNone': WHATEVER THE INPUT: true; the input reads as it did. -/
def xformNoneSpec : ChangeSpec := { name := "xformNone", fn := fun _ => fun
  | [d1, d2, d3, d4] => { results := [.lit (.bool true)], args := [d1, d2, d3, d4] }
  | _ => none }
def xformNoneRow : OpenClaim := { program := "ytakdcfjlhpponaa", sum := "65165c88809922a91e3979f21fdd6471fea282b30aac1535d8eba7e61865dd06", func := "ropewalk/ropewalklaw10.XformNone", spec := "xformNone", inPlace := ["internal/abi.NoEscape"], unfollowed := true, recurses := true, apart := false }
def XformNoneSaid : Prop := xformNoneRow.holds Try.pinned (OpenSpec.ofChange xformNoneSpec)

/-- ITS FALSE NEIGHBOUR: 'it returns false'. Refute it at one input. -/
def xformNoneWrong : ChangeSpec := { name := "xformNone", fn := fun _ => fun
  | [d1, d2, d3, d4] => { results := [.lit (.bool false)], args := [d1, d2, d3, d4] }
  | _ => none }
def XformNoneWrongFalsely : Prop := xformNoneRow.holds Try.pinned (OpenSpec.ofChange xformNoneWrong)

/-- 'ropewalklaw10.XformMany': WHATEVER THE INPUT: true; the input reads as it did. -/
def xformManySpec : ChangeSpec := { name := "xformMany", fn := fun _ => fun
  | [d1, d2, d3, d4, d5] => { results := [.lit (.bool true)], args := [d1, d2, d3, d4, d5] }
  | _ => none }
def xformManyRow : OpenClaim := { program := "ytakdcfjlhpponaa", sum := "65165c88809922a91e3979f21fdd6471fea282b30aac1535d8eba7e61865dd06", func := "ropewalk/ropewalklaw10.XformMany", spec := "xformMany", inPlace := ["internal/abi.NoEscape"], unfollowed := true, recurses := true, apart := false }
def XformManySaid : Prop := xformManyRow.holds Try.pinned (OpenSpec.ofChange xformManySpec)

/-- ITS FALSE NEIGHBOUR: 'it returns false'. Refute it at one input. -/
def xformManyWrong : ChangeSpec := { name := "xformMany", fn := fun _ => fun
  | [d1, d2, d3, d4, d5] => { results := [.lit (.bool false)], args := [d1, d2, d3, d4, d5] }
  | _ => none }
def XformManyWrongFalsely : Prop := xformManyRow.holds Try.pinned (OpenSpec.ofChange xformManyWrong)

/- THE SECOND FORM. 'bulk': how many values and letters a reading holds, each counted each time it is reached (what is shared counts as often as it is met; a slice's spare places count too). A statement '..UptoSaid' is the law's where the arguments, and the package variables that the reading takes, are together of bulk at most 1048576: NARROWER than '..Said'. Prove '..Said' where nothing that the law and all that it calls make is longer than what came in: it says more and counts as full. Else prove '..UptoSaid'. A law counts once. -/
mutual
def uptoBulk {H : Type} : DataW H → Nat
  | .lit (.string bytes) => bytes.length + 1
  | .lit _ => 1
  | .nil => 1
  | .ptr d => uptoBulk d + 1
  | .slice elems spare => uptoBulkAll elems + uptoBulkAll spare + 1
  | .agg parts => uptoBulkAll parts + 1
  | .iface _ d => uptoBulk d + 1
  | .map entries => uptoBulkEntries entries + 1
  | .held _ => 1
def uptoBulkAll {H : Type} : List (DataW H) → Nat
  | [] => 0
  | d :: r => uptoBulk d + uptoBulkAll r
def uptoBulkEntries {H : Type} : List (Lit × DataW H) → Nat
  | [] => 0
  | x :: r => uptoBulkEntry x + uptoBulkEntries r
def uptoBulkEntry {H : Type} : Lit × DataW H → Nat
  | (.string bytes, d) => bytes.length + uptoBulk d + 1
  | (_, d) => uptoBulk d + 1
 end
def uptoSmall : (H : Type) → List (DataW H) → Bool := fun _ ds => decide (uptoBulkAll ds ≤ 1048576)
def OpenSpec.upto (s : _root_.Go.ChangeSpec) : _root_.Go.OpenSpec := { _root_.Go.OpenSpec.ofChange s with cond := some uptoSmall }

/-- 'ropewalklaw10.XformAsks', WHERE WHAT IT READS IS OF BULK AT MOST 1048576: true; the input reads as it did. -/
def xformAsksUptoRow : OpenClaim := { program := "ytakdcfjlhpponaa", sum := "65165c88809922a91e3979f21fdd6471fea282b30aac1535d8eba7e61865dd06", func := "ropewalk/ropewalklaw10.XformAsks", spec := "xformAsks", unfollowed := true, recurses := true, apart := false, narrowed := true }
def XformAsksUptoSaid : Prop := xformAsksUptoRow.holds Try.pinned (OpenSpec.upto xformAsksSpec)

/-- 'ropewalklaw10.XformMeets', WHERE WHAT IT READS IS OF BULK AT MOST 1048576: true; the input reads as it did. -/
def xformMeetsUptoRow : OpenClaim := { program := "ytakdcfjlhpponaa", sum := "65165c88809922a91e3979f21fdd6471fea282b30aac1535d8eba7e61865dd06", func := "ropewalk/ropewalklaw10.XformMeets", spec := "xformMeets", inPlace := ["internal/abi.NoEscape"], unfollowed := true, recurses := true, apart := false, narrowed := true }
def XformMeetsUptoSaid : Prop := xformMeetsUptoRow.holds Try.pinned (OpenSpec.upto xformMeetsSpec)

/-- 'ropewalklaw10.XformKeeps', WHERE WHAT IT READS IS OF BULK AT MOST 1048576: true; the input reads as it did. -/
def xformKeepsUptoRow : OpenClaim := { program := "ytakdcfjlhpponaa", sum := "65165c88809922a91e3979f21fdd6471fea282b30aac1535d8eba7e61865dd06", func := "ropewalk/ropewalklaw10.XformKeeps", spec := "xformKeeps", inPlace := ["internal/abi.NoEscape"], unfollowed := true, recurses := true, apart := false, narrowed := true }
def XformKeepsUptoSaid : Prop := xformKeepsUptoRow.holds Try.pinned (OpenSpec.upto xformKeepsSpec)

/-- 'ropewalklaw10.XformNone', WHERE WHAT IT READS IS OF BULK AT MOST 1048576: true; the input reads as it did. -/
def xformNoneUptoRow : OpenClaim := { program := "ytakdcfjlhpponaa", sum := "65165c88809922a91e3979f21fdd6471fea282b30aac1535d8eba7e61865dd06", func := "ropewalk/ropewalklaw10.XformNone", spec := "xformNone", inPlace := ["internal/abi.NoEscape"], unfollowed := true, recurses := true, apart := false, narrowed := true }
def XformNoneUptoSaid : Prop := xformNoneUptoRow.holds Try.pinned (OpenSpec.upto xformNoneSpec)

/-- 'ropewalklaw10.XformMany', WHERE WHAT IT READS IS OF BULK AT MOST 1048576: true; the input reads as it did. -/
def xformManyUptoRow : OpenClaim := { program := "ytakdcfjlhpponaa", sum := "65165c88809922a91e3979f21fdd6471fea282b30aac1535d8eba7e61865dd06", func := "ropewalk/ropewalklaw10.XformMany", spec := "xformMany", inPlace := ["internal/abi.NoEscape"], unfollowed := true, recurses := true, apart := false, narrowed := true }
def XformManyUptoSaid : Prop := xformManyUptoRow.holds Try.pinned (OpenSpec.upto xformManySpec)

end Rows
end Go.Proofs.Ytakdcfjlhpponaa
