/-
  NARROWER THAN 'FOR EVERY INPUT', by the rows' own cells (each row's printed sentence says how): RebaseApart: laid · RebaseMeets: laid · RebaseTable: laid · RebaseParent: laid · RebaseRow: laid · RebaseIdle: laid.
  DERIVED. THE GIVEN ROWS OF THIS SEAT. 6 by the template 'for every input the law returns true; each argument reads behind the call as it read before'; 0 by the template 'total and deterministic' (their statements: YtjpjdkdbgjipnaaDoorTotals.lean).
  GIVEN WITH THE SEED: the statements are not yours to turn. If you find one false, say at which input.
  Laid BY PROGRAM, IN A SANDBOX (cutbox-rows.mjs): the forced cells as the released guide's own fill.sh prints them over the translation 7e3b4c4e1c270301… (all of the seat's roots in one cut). By AI agents, Wed Nov 11 2026. No macro, syntax, notation, axiom, sorry.
-/
import Derived.Test.YtjpjdkdbgjipnaaDoorChecked
import GoSem.Claim
import GoSem.ClaimJoined
import GoSem.ClaimMapViews
import Derived.JoinedTies
import Derived.KernelRfl
namespace Go.Proofs.YtjpjdkdbgjipnaaDoor
/- THE CELL 'sum', in the pinned program and in every row, IS THE sha256 OF THE DUMP (.gsa) THAT YtjpjdkdbgjipnaaDoorProg.lean LOADS. Nothing in Lean hashes anything: it is a label: what it is worth is what the hold of that sum in a sandbox is worth. -/
noncomputable def Tryd.pinned : Pinned := { name := "ytjpjdkdbgjipnaadoor", sum := "7e3b4c4e1c2703010c673c13361f5d66c4a73296a0cc2aad903789d92e570390", checked := Tryd.checked }
namespace Rows
def none {H : Type} : Left H := { results := [], args := [] }

/- WHAT THE LISTED PACKAGE-LEVEL VARIABLES READ AS WHEN THE CALL BEGINS. Each datum BY PROGRAM (the guide's laid-datum.mjs) off the statement by which the dump's own 'gosem.cut.vars' lays the variable. In a bare row this is a premise. The card (YtjpjdkdbgjipnaaDoorCards.lean) ties it to the program's text. -/
def laid_ropewalk_rebase_conflicts {H : Type} : DataW H := .agg [.agg [.lit (.int .i64 4), .lit (.int .i64 2), .lit (.int .i64 0), .lit (.int .i64 12)], .agg [.lit (.int .i64 2), .lit (.int .i64 9), .lit (.int .i64 2), .lit (.int .i64 13)], .agg [.lit (.int .i64 3), .lit (.int .i64 2), .lit (.int .i64 0), .lit (.int .i64 12)], .agg [.lit (.int .i64 3), .lit (.int .i64 16), .lit (.int .i64 0), .lit (.int .i64 13)], .agg [.lit (.int .i64 1), .lit (.int .i64 4), .lit (.int .i64 0), .lit (.int .i64 13)], .agg [.lit (.int .i64 1), .lit (.int .i64 32), .lit (.int .i64 0), .lit (.int .i64 12)], .agg [.lit (.int .i64 3), .lit (.int .i64 32), .lit (.int .i64 0), .lit (.int .i64 12)]]

/-- 'ropewalklaw16.RebaseApart': WHATEVER THE INPUT: true; the input reads as it did. -/
def rebaseApartSpec : ChangeSpec := { name := "rebaseApart", fn := fun _ => fun
  | [d1, d2, d3] => { results := [.lit (.bool true)], args := [d1, d2, d3] }
  | _ => none }
def rebaseApartRow : OpenClaim := { program := "ytjpjdkdbgjipnaadoor", sum := "7e3b4c4e1c2703010c673c13361f5d66c4a73296a0cc2aad903789d92e570390", func := "ropewalk/ropewalklaw16.RebaseApart", spec := "rebaseApart", unfollowed := true, recurses := true, named := ["ropewalk/rebase.conflicts"], apart := false, laid := [("ropewalk/rebase.conflicts", laid_ropewalk_rebase_conflicts)] }
def RebaseApartSaid : Prop := rebaseApartRow.holds Tryd.pinned (OpenSpec.ofChange rebaseApartSpec)

/-- ITS FALSE NEIGHBOUR: 'it returns false'. Refute it at one input. -/
def rebaseApartWrong : ChangeSpec := { name := "rebaseApart", fn := fun _ => fun
  | [d1, d2, d3] => { results := [.lit (.bool false)], args := [d1, d2, d3] }
  | _ => none }
def RebaseApartWrongFalsely : Prop := rebaseApartRow.holds Tryd.pinned (OpenSpec.ofChange rebaseApartWrong)

/-- 'ropewalklaw16.RebaseMeets': WHATEVER THE INPUT: true; the input reads as it did. -/
def rebaseMeetsSpec : ChangeSpec := { name := "rebaseMeets", fn := fun _ => fun
  | [d1, d2, d3] => { results := [.lit (.bool true)], args := [d1, d2, d3] }
  | _ => none }
def rebaseMeetsRow : OpenClaim := { program := "ytjpjdkdbgjipnaadoor", sum := "7e3b4c4e1c2703010c673c13361f5d66c4a73296a0cc2aad903789d92e570390", func := "ropewalk/ropewalklaw16.RebaseMeets", spec := "rebaseMeets", unfollowed := true, recurses := true, named := ["ropewalk/rebase.conflicts"], apart := false, laid := [("ropewalk/rebase.conflicts", laid_ropewalk_rebase_conflicts)] }
def RebaseMeetsSaid : Prop := rebaseMeetsRow.holds Tryd.pinned (OpenSpec.ofChange rebaseMeetsSpec)

/-- ITS FALSE NEIGHBOUR: 'it returns false'. Refute it at one input. -/
def rebaseMeetsWrong : ChangeSpec := { name := "rebaseMeets", fn := fun _ => fun
  | [d1, d2, d3] => { results := [.lit (.bool false)], args := [d1, d2, d3] }
  | _ => none }
def RebaseMeetsWrongFalsely : Prop := rebaseMeetsRow.holds Tryd.pinned (OpenSpec.ofChange rebaseMeetsWrong)

/-- 'ropewalklaw16.RebaseTable': WHATEVER THE INPUT: true; the input reads as it did. -/
def rebaseTableSpec : ChangeSpec := { name := "rebaseTable", fn := fun _ => fun
  | [d1, d2, d3] => { results := [.lit (.bool true)], args := [d1, d2, d3] }
  | _ => none }
def rebaseTableRow : OpenClaim := { program := "ytjpjdkdbgjipnaadoor", sum := "7e3b4c4e1c2703010c673c13361f5d66c4a73296a0cc2aad903789d92e570390", func := "ropewalk/ropewalklaw16.RebaseTable", spec := "rebaseTable", unfollowed := true, recurses := true, named := ["ropewalk/rebase.conflicts"], apart := false, laid := [("ropewalk/rebase.conflicts", laid_ropewalk_rebase_conflicts)] }
def RebaseTableSaid : Prop := rebaseTableRow.holds Tryd.pinned (OpenSpec.ofChange rebaseTableSpec)

/-- ITS FALSE NEIGHBOUR: 'it returns false'. Refute it at one input. -/
def rebaseTableWrong : ChangeSpec := { name := "rebaseTable", fn := fun _ => fun
  | [d1, d2, d3] => { results := [.lit (.bool false)], args := [d1, d2, d3] }
  | _ => none }
def RebaseTableWrongFalsely : Prop := rebaseTableRow.holds Tryd.pinned (OpenSpec.ofChange rebaseTableWrong)

/-- 'ropewalklaw16.RebaseParent': WHATEVER THE INPUT: true; the input reads as it did. -/
def rebaseParentSpec : ChangeSpec := { name := "rebaseParent", fn := fun _ => fun
  | [d1, d2, d3, d4] => { results := [.lit (.bool true)], args := [d1, d2, d3, d4] }
  | _ => none }
def rebaseParentRow : OpenClaim := { program := "ytjpjdkdbgjipnaadoor", sum := "7e3b4c4e1c2703010c673c13361f5d66c4a73296a0cc2aad903789d92e570390", func := "ropewalk/ropewalklaw16.RebaseParent", spec := "rebaseParent", unfollowed := true, recurses := true, named := ["ropewalk/rebase.conflicts"], apart := false, laid := [("ropewalk/rebase.conflicts", laid_ropewalk_rebase_conflicts)] }
def RebaseParentSaid : Prop := rebaseParentRow.holds Tryd.pinned (OpenSpec.ofChange rebaseParentSpec)

/-- ITS FALSE NEIGHBOUR: 'it returns false'. Refute it at one input. -/
def rebaseParentWrong : ChangeSpec := { name := "rebaseParent", fn := fun _ => fun
  | [d1, d2, d3, d4] => { results := [.lit (.bool false)], args := [d1, d2, d3, d4] }
  | _ => none }
def RebaseParentWrongFalsely : Prop := rebaseParentRow.holds Tryd.pinned (OpenSpec.ofChange rebaseParentWrong)

/-- 'ropewalklaw16.RebaseRow': WHATEVER THE INPUT: true; the input reads as it did. -/
def rebaseRowSpec : ChangeSpec := { name := "rebaseRow", fn := fun _ => fun
  | [d1, d2, d3] => { results := [.lit (.bool true)], args := [d1, d2, d3] }
  | _ => none }
def rebaseRowRow : OpenClaim := { program := "ytjpjdkdbgjipnaadoor", sum := "7e3b4c4e1c2703010c673c13361f5d66c4a73296a0cc2aad903789d92e570390", func := "ropewalk/ropewalklaw16.RebaseRow", spec := "rebaseRow", unfollowed := true, recurses := true, named := ["ropewalk/rebase.conflicts"], apart := false, laid := [("ropewalk/rebase.conflicts", laid_ropewalk_rebase_conflicts)] }
def RebaseRowSaid : Prop := rebaseRowRow.holds Tryd.pinned (OpenSpec.ofChange rebaseRowSpec)

/-- ITS FALSE NEIGHBOUR: 'it returns false'. Refute it at one input. -/
def rebaseRowWrong : ChangeSpec := { name := "rebaseRow", fn := fun _ => fun
  | [d1, d2, d3] => { results := [.lit (.bool false)], args := [d1, d2, d3] }
  | _ => none }
def RebaseRowWrongFalsely : Prop := rebaseRowRow.holds Tryd.pinned (OpenSpec.ofChange rebaseRowWrong)

/-- 'ropewalklaw16.RebaseIdle': WHATEVER THE INPUT: true; the input reads as it did. -/
def rebaseIdleSpec : ChangeSpec := { name := "rebaseIdle", fn := fun _ => fun
  | [d1, d2] => { results := [.lit (.bool true)], args := [d1, d2] }
  | _ => none }
def rebaseIdleRow : OpenClaim := { program := "ytjpjdkdbgjipnaadoor", sum := "7e3b4c4e1c2703010c673c13361f5d66c4a73296a0cc2aad903789d92e570390", func := "ropewalk/ropewalklaw16.RebaseIdle", spec := "rebaseIdle", unfollowed := true, recurses := true, named := ["ropewalk/rebase.conflicts"], apart := false, laid := [("ropewalk/rebase.conflicts", laid_ropewalk_rebase_conflicts)] }
def RebaseIdleSaid : Prop := rebaseIdleRow.holds Tryd.pinned (OpenSpec.ofChange rebaseIdleSpec)

/-- ITS FALSE NEIGHBOUR: 'it returns false'. Refute it at one input. -/
def rebaseIdleWrong : ChangeSpec := { name := "rebaseIdle", fn := fun _ => fun
  | [d1, d2] => { results := [.lit (.bool false)], args := [d1, d2] }
  | _ => none }
def RebaseIdleWrongFalsely : Prop := rebaseIdleRow.holds Tryd.pinned (OpenSpec.ofChange rebaseIdleWrong)

/- THE SECOND FORM. 'bulk': how many values and letters a reading holds, each counted each time it is reached (what is shared counts as often as it is met; a slice's spare places count too). A statement '..UptoSaid' is the law's where the arguments, and the package variables that the reading takes, are together of bulk at most 1048576: NARROWER than '..Said'. Prove '..Said' where nothing that the law and all that it calls make is longer than what came in: it says more and counts as full. Else prove '..UptoSaid'. A law counts once. -/
mutual
def uptoBulk {H : Type} : DataW H → Nat
  | .lit (.string bytes) => bytes.length + 1
  | .lit _ => 1
  | .nil => 1
  | .ptr d => uptoBulk d + 1
  | .slice elems spare => uptoBulkAll elems + uptoBulkAll spare + 1
  | .agg parts => uptoBulkAll parts + 1
  | .iface _ d => uptoBulk d + 1
  | .map entries => uptoBulkEntries entries + 1
  | .held _ => 1
def uptoBulkAll {H : Type} : List (DataW H) → Nat
  | [] => 0
  | d :: r => uptoBulk d + uptoBulkAll r
def uptoBulkEntries {H : Type} : List (Lit × DataW H) → Nat
  | [] => 0
  | x :: r => uptoBulkEntry x + uptoBulkEntries r
def uptoBulkEntry {H : Type} : Lit × DataW H → Nat
  | (.string bytes, d) => bytes.length + uptoBulk d + 1
  | (_, d) => uptoBulk d + 1
 end
def uptoSmall : (H : Type) → List (DataW H) → Bool := fun _ ds => decide (uptoBulkAll ds ≤ 1048576)
def OpenSpec.upto (s : _root_.Go.ChangeSpec) : _root_.Go.OpenSpec := { _root_.Go.OpenSpec.ofChange s with cond := some uptoSmall }

/-- 'ropewalklaw16.RebaseApart', WHERE WHAT IT READS IS OF BULK AT MOST 1048576: true; the input reads as it did. -/
def rebaseApartUptoRow : OpenClaim := { program := "ytjpjdkdbgjipnaadoor", sum := "7e3b4c4e1c2703010c673c13361f5d66c4a73296a0cc2aad903789d92e570390", func := "ropewalk/ropewalklaw16.RebaseApart", spec := "rebaseApart", unfollowed := true, recurses := true, named := ["ropewalk/rebase.conflicts"], apart := false, laid := [("ropewalk/rebase.conflicts", laid_ropewalk_rebase_conflicts)], narrowed := true }
def RebaseApartUptoSaid : Prop := rebaseApartUptoRow.holds Tryd.pinned (OpenSpec.upto rebaseApartSpec)

/-- 'ropewalklaw16.RebaseMeets', WHERE WHAT IT READS IS OF BULK AT MOST 1048576: true; the input reads as it did. -/
def rebaseMeetsUptoRow : OpenClaim := { program := "ytjpjdkdbgjipnaadoor", sum := "7e3b4c4e1c2703010c673c13361f5d66c4a73296a0cc2aad903789d92e570390", func := "ropewalk/ropewalklaw16.RebaseMeets", spec := "rebaseMeets", unfollowed := true, recurses := true, named := ["ropewalk/rebase.conflicts"], apart := false, laid := [("ropewalk/rebase.conflicts", laid_ropewalk_rebase_conflicts)], narrowed := true }
def RebaseMeetsUptoSaid : Prop := rebaseMeetsUptoRow.holds Tryd.pinned (OpenSpec.upto rebaseMeetsSpec)

/-- 'ropewalklaw16.RebaseTable', WHERE WHAT IT READS IS OF BULK AT MOST 1048576: true; the input reads as it did. -/
def rebaseTableUptoRow : OpenClaim := { program := "ytjpjdkdbgjipnaadoor", sum := "7e3b4c4e1c2703010c673c13361f5d66c4a73296a0cc2aad903789d92e570390", func := "ropewalk/ropewalklaw16.RebaseTable", spec := "rebaseTable", unfollowed := true, recurses := true, named := ["ropewalk/rebase.conflicts"], apart := false, laid := [("ropewalk/rebase.conflicts", laid_ropewalk_rebase_conflicts)], narrowed := true }
def RebaseTableUptoSaid : Prop := rebaseTableUptoRow.holds Tryd.pinned (OpenSpec.upto rebaseTableSpec)

/-- 'ropewalklaw16.RebaseParent', WHERE WHAT IT READS IS OF BULK AT MOST 1048576: true; the input reads as it did. -/
def rebaseParentUptoRow : OpenClaim := { program := "ytjpjdkdbgjipnaadoor", sum := "7e3b4c4e1c2703010c673c13361f5d66c4a73296a0cc2aad903789d92e570390", func := "ropewalk/ropewalklaw16.RebaseParent", spec := "rebaseParent", unfollowed := true, recurses := true, named := ["ropewalk/rebase.conflicts"], apart := false, laid := [("ropewalk/rebase.conflicts", laid_ropewalk_rebase_conflicts)], narrowed := true }
def RebaseParentUptoSaid : Prop := rebaseParentUptoRow.holds Tryd.pinned (OpenSpec.upto rebaseParentSpec)

/-- 'ropewalklaw16.RebaseRow', WHERE WHAT IT READS IS OF BULK AT MOST 1048576: true; the input reads as it did. -/
def rebaseRowUptoRow : OpenClaim := { program := "ytjpjdkdbgjipnaadoor", sum := "7e3b4c4e1c2703010c673c13361f5d66c4a73296a0cc2aad903789d92e570390", func := "ropewalk/ropewalklaw16.RebaseRow", spec := "rebaseRow", unfollowed := true, recurses := true, named := ["ropewalk/rebase.conflicts"], apart := false, laid := [("ropewalk/rebase.conflicts", laid_ropewalk_rebase_conflicts)], narrowed := true }
def RebaseRowUptoSaid : Prop := rebaseRowUptoRow.holds Tryd.pinned (OpenSpec.upto rebaseRowSpec)

/-- 'ropewalklaw16.RebaseIdle', WHERE WHAT IT READS IS OF BULK AT MOST 1048576: true; the input reads as it did. -/
def rebaseIdleUptoRow : OpenClaim := { program := "ytjpjdkdbgjipnaadoor", sum := "7e3b4c4e1c2703010c673c13361f5d66c4a73296a0cc2aad903789d92e570390", func := "ropewalk/ropewalklaw16.RebaseIdle", spec := "rebaseIdle", unfollowed := true, recurses := true, named := ["ropewalk/rebase.conflicts"], apart := false, laid := [("ropewalk/rebase.conflicts", laid_ropewalk_rebase_conflicts)], narrowed := true }
def RebaseIdleUptoSaid : Prop := rebaseIdleUptoRow.holds Tryd.pinned (OpenSpec.upto rebaseIdleSpec)

end Rows
end Go.Proofs.YtjpjdkdbgjipnaaDoor
