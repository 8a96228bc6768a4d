/-
  DERIVED. GIVEN WITH THE SEED: THE CARDS: each row of YtjpjdkdbgjipnaaGreatDoorRows.lean that lists a variable, with what it lists TIED to the program's text (the seventh form; the later family's looks); each row that meets fmt, with fmt's text TOLD by the authors' own Lean function (tested against real Go, not proved from fmt's source: count such statements apart). THE CARD IS WHAT COUNTS. Prove the row's statement (the work); the ties are given (YtjpjdkdbgjipnaaGreatDoorTie.lean); close each card by the builder's one call (the guide's Derived/Test/ToyasCard.lean, 'card_holds'). Laid BY PROGRAM, IN A SANDBOX (cutbox-door.mjs). By AI agents, Wed Nov 11 2026. No macro, syntax, notation, axiom, sorry.
-/
import Derived.Test.YtjpjdkdbgjipnaaGreatDoorRows
import GoSem.ClaimSeven
namespace Go.Proofs.YtjpjdkdbgjipnaaGreatDoor
namespace Rows

/-- THE TIED CARD OF 'ropewalklaw16.RebaseAsks'. -/
def rebaseAsksCard : Claim7 := { stood := { row := rebaseAsksRow, standIns := [], harness := (true, "0bc156a6ebae50772fd5bc8ab743ec3881dcb267fb73e3c333265851961d9973"), looks := false }, kinds := [], alts := [], laidByText := true, laidKinds := [.data], laidTests := true, laidLooks := .later }
def RebaseAsksCardSaid : Prop := Claim7.holds Tryz.pinned (.plain (OpenSpec.ofChange rebaseAsksSpec)) rebaseAsksCard

/-- THE SECOND FORM's CARD OF 'ropewalklaw16.RebaseAsks'. -/
def rebaseAsksUptoCard : Claim7 := { stood := { row := rebaseAsksUptoRow, standIns := [], harness := (true, "0bc156a6ebae50772fd5bc8ab743ec3881dcb267fb73e3c333265851961d9973"), looks := false }, kinds := [], alts := [], laidByText := true, laidKinds := [.data], laidTests := true, laidLooks := .later }
def RebaseAsksUptoCardSaid : Prop := Claim7.holds Tryz.pinned (.plain (OpenSpec.upto rebaseAsksSpec)) rebaseAsksUptoCard
end Rows
end Go.Proofs.YtjpjdkdbgjipnaaGreatDoor
