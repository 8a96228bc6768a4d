/-
  DERIVED. GIVEN WITH THE SEED: THE CARDS: each row of YtjpjdkdbgjipnaaDoorRows.lean that lists a variable, with what it lists TIED to the program's text (the seventh form; the later family's looks); each row that meets fmt, with fmt's text TOLD by the authors' own Lean function (tested against real Go, not proved from fmt's source: count such statements apart). THE CARD IS WHAT COUNTS. Prove the row's statement (the work); the ties are given (YtjpjdkdbgjipnaaDoorTie.lean); close each card by the builder's one call (the guide's Derived/Test/ToyasCard.lean, 'card_holds'). Laid BY PROGRAM, IN A SANDBOX (cutbox-door.mjs). By AI agents, Wed Nov 11 2026. No macro, syntax, notation, axiom, sorry.
-/
import Derived.Test.YtjpjdkdbgjipnaaDoorRows
import GoSem.ClaimSeven
namespace Go.Proofs.YtjpjdkdbgjipnaaDoor
namespace Rows

/-- THE TIED CARD OF 'ropewalklaw16.RebaseApart'. -/
def rebaseApartCard : Claim7 := { stood := { row := rebaseApartRow, standIns := [], harness := (true, "482e72ee30c07727fafe1d5d221bc6bccc5ba02ccb82434639902fb10a0c941e"), looks := false }, kinds := [], alts := [], laidByText := true, laidKinds := [.data], laidTests := true, laidLooks := .later }
def RebaseApartCardSaid : Prop := Claim7.holds Tryd.pinned (.plain (OpenSpec.ofChange rebaseApartSpec)) rebaseApartCard

/-- THE TIED CARD OF 'ropewalklaw16.RebaseMeets'. -/
def rebaseMeetsCard : Claim7 := { stood := { row := rebaseMeetsRow, standIns := [], harness := (true, "482e72ee30c07727fafe1d5d221bc6bccc5ba02ccb82434639902fb10a0c941e"), looks := false }, kinds := [], alts := [], laidByText := true, laidKinds := [.data], laidTests := true, laidLooks := .later }
def RebaseMeetsCardSaid : Prop := Claim7.holds Tryd.pinned (.plain (OpenSpec.ofChange rebaseMeetsSpec)) rebaseMeetsCard

/-- THE TIED CARD OF 'ropewalklaw16.RebaseTable'. -/
def rebaseTableCard : Claim7 := { stood := { row := rebaseTableRow, standIns := [], harness := (true, "482e72ee30c07727fafe1d5d221bc6bccc5ba02ccb82434639902fb10a0c941e"), looks := false }, kinds := [], alts := [], laidByText := true, laidKinds := [.data], laidTests := true, laidLooks := .later }
def RebaseTableCardSaid : Prop := Claim7.holds Tryd.pinned (.plain (OpenSpec.ofChange rebaseTableSpec)) rebaseTableCard

/-- THE TIED CARD OF 'ropewalklaw16.RebaseParent'. -/
def rebaseParentCard : Claim7 := { stood := { row := rebaseParentRow, standIns := [], harness := (true, "482e72ee30c07727fafe1d5d221bc6bccc5ba02ccb82434639902fb10a0c941e"), looks := false }, kinds := [], alts := [], laidByText := true, laidKinds := [.data], laidTests := true, laidLooks := .later }
def RebaseParentCardSaid : Prop := Claim7.holds Tryd.pinned (.plain (OpenSpec.ofChange rebaseParentSpec)) rebaseParentCard

/-- THE TIED CARD OF 'ropewalklaw16.RebaseRow'. -/
def rebaseRowCard : Claim7 := { stood := { row := rebaseRowRow, standIns := [], harness := (true, "482e72ee30c07727fafe1d5d221bc6bccc5ba02ccb82434639902fb10a0c941e"), looks := false }, kinds := [], alts := [], laidByText := true, laidKinds := [.data], laidTests := true, laidLooks := .later }
def RebaseRowCardSaid : Prop := Claim7.holds Tryd.pinned (.plain (OpenSpec.ofChange rebaseRowSpec)) rebaseRowCard

/-- THE TIED CARD OF 'ropewalklaw16.RebaseIdle'. -/
def rebaseIdleCard : Claim7 := { stood := { row := rebaseIdleRow, standIns := [], harness := (true, "482e72ee30c07727fafe1d5d221bc6bccc5ba02ccb82434639902fb10a0c941e"), looks := false }, kinds := [], alts := [], laidByText := true, laidKinds := [.data], laidTests := true, laidLooks := .later }
def RebaseIdleCardSaid : Prop := Claim7.holds Tryd.pinned (.plain (OpenSpec.ofChange rebaseIdleSpec)) rebaseIdleCard

/-- THE SECOND FORM's CARD OF 'ropewalklaw16.RebaseApart'. -/
def rebaseApartUptoCard : Claim7 := { stood := { row := rebaseApartUptoRow, standIns := [], harness := (true, "482e72ee30c07727fafe1d5d221bc6bccc5ba02ccb82434639902fb10a0c941e"), looks := false }, kinds := [], alts := [], laidByText := true, laidKinds := [.data], laidTests := true, laidLooks := .later }
def RebaseApartUptoCardSaid : Prop := Claim7.holds Tryd.pinned (.plain (OpenSpec.upto rebaseApartSpec)) rebaseApartUptoCard

/-- THE SECOND FORM's CARD OF 'ropewalklaw16.RebaseMeets'. -/
def rebaseMeetsUptoCard : Claim7 := { stood := { row := rebaseMeetsUptoRow, standIns := [], harness := (true, "482e72ee30c07727fafe1d5d221bc6bccc5ba02ccb82434639902fb10a0c941e"), looks := false }, kinds := [], alts := [], laidByText := true, laidKinds := [.data], laidTests := true, laidLooks := .later }
def RebaseMeetsUptoCardSaid : Prop := Claim7.holds Tryd.pinned (.plain (OpenSpec.upto rebaseMeetsSpec)) rebaseMeetsUptoCard

/-- THE SECOND FORM's CARD OF 'ropewalklaw16.RebaseTable'. -/
def rebaseTableUptoCard : Claim7 := { stood := { row := rebaseTableUptoRow, standIns := [], harness := (true, "482e72ee30c07727fafe1d5d221bc6bccc5ba02ccb82434639902fb10a0c941e"), looks := false }, kinds := [], alts := [], laidByText := true, laidKinds := [.data], laidTests := true, laidLooks := .later }
def RebaseTableUptoCardSaid : Prop := Claim7.holds Tryd.pinned (.plain (OpenSpec.upto rebaseTableSpec)) rebaseTableUptoCard

/-- THE SECOND FORM's CARD OF 'ropewalklaw16.RebaseParent'. -/
def rebaseParentUptoCard : Claim7 := { stood := { row := rebaseParentUptoRow, standIns := [], harness := (true, "482e72ee30c07727fafe1d5d221bc6bccc5ba02ccb82434639902fb10a0c941e"), looks := false }, kinds := [], alts := [], laidByText := true, laidKinds := [.data], laidTests := true, laidLooks := .later }
def RebaseParentUptoCardSaid : Prop := Claim7.holds Tryd.pinned (.plain (OpenSpec.upto rebaseParentSpec)) rebaseParentUptoCard

/-- THE SECOND FORM's CARD OF 'ropewalklaw16.RebaseRow'. -/
def rebaseRowUptoCard : Claim7 := { stood := { row := rebaseRowUptoRow, standIns := [], harness := (true, "482e72ee30c07727fafe1d5d221bc6bccc5ba02ccb82434639902fb10a0c941e"), looks := false }, kinds := [], alts := [], laidByText := true, laidKinds := [.data], laidTests := true, laidLooks := .later }
def RebaseRowUptoCardSaid : Prop := Claim7.holds Tryd.pinned (.plain (OpenSpec.upto rebaseRowSpec)) rebaseRowUptoCard

/-- THE SECOND FORM's CARD OF 'ropewalklaw16.RebaseIdle'. -/
def rebaseIdleUptoCard : Claim7 := { stood := { row := rebaseIdleUptoRow, standIns := [], harness := (true, "482e72ee30c07727fafe1d5d221bc6bccc5ba02ccb82434639902fb10a0c941e"), looks := false }, kinds := [], alts := [], laidByText := true, laidKinds := [.data], laidTests := true, laidLooks := .later }
def RebaseIdleUptoCardSaid : Prop := Claim7.holds Tryd.pinned (.plain (OpenSpec.upto rebaseIdleSpec)) rebaseIdleUptoCard
end Rows
end Go.Proofs.YtjpjdkdbgjipnaaDoor
