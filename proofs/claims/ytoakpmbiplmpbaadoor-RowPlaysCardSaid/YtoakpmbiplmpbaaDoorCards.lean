/-
  DERIVED. GIVEN WITH THE SEED: THE CARDS: each row of YtoakpmbiplmpbaaDoorRows.lean that lists a variable, with what it lists TIED to the program's text (the seventh form; the later family's looks); each row that meets fmt, with fmt's text TOLD by the authors' own Lean function (tested against real Go, not proved from fmt's source: count such statements apart). THE CARD IS WHAT COUNTS. Prove the row's statement (the work); the ties are given (YtoakpmbiplmpbaaDoorTie.lean); close each card by the builder's one call (the guide's Derived/Test/ToyasCard.lean, 'card_holds'). Laid BY PROGRAM, IN A SANDBOX (cutbox-door.mjs). By AI agents, Wed Nov 11 2026. No macro, syntax, notation, axiom, sorry.
-/
import Derived.Test.YtoakpmbiplmpbaaDoorRows
import GoSem.ClaimSeven
namespace Go.Proofs.YtoakpmbiplmpbaaDoor
namespace Rows

/-- THE TIED CARD OF 'tenterlaw01.RowPlays'. -/
def rowPlaysCard : Claim7 := { stood := { row := rowPlaysRow, standIns := [], harness := (true, "f492f83cfb7c20d568c9ad6e40775067f58125182b9b09b9f7eb64166ab7d426"), looks := false }, kinds := [], alts := [], laidByText := true, laidKinds := [.data], laidTests := true, laidLooks := .later }
def RowPlaysCardSaid : Prop := Claim7.holds Tryd.pinned (.plain (OpenSpec.ofChange rowPlaysSpec)) rowPlaysCard

/-- THE TIED CARD OF 'tenterlaw01.RowCounts'. -/
def rowCountsCard : Claim7 := { stood := { row := rowCountsRow, standIns := [], harness := (true, "f492f83cfb7c20d568c9ad6e40775067f58125182b9b09b9f7eb64166ab7d426"), looks := false }, kinds := [], alts := [], laidByText := true, laidKinds := [.data], laidTests := true, laidLooks := .later }
def RowCountsCardSaid : Prop := Claim7.holds Tryd.pinned (.plain (OpenSpec.ofChange rowCountsSpec)) rowCountsCard

/-- THE TIED CARD OF 'tenterlaw01.RowBack'. -/
def rowBackCard : Claim7 := { stood := { row := rowBackRow, standIns := [], harness := (true, "f492f83cfb7c20d568c9ad6e40775067f58125182b9b09b9f7eb64166ab7d426"), looks := false }, kinds := [], alts := [], laidByText := true, laidKinds := [.data], laidTests := true, laidLooks := .later }
def RowBackCardSaid : Prop := Claim7.holds Tryd.pinned (.plain (OpenSpec.ofChange rowBackSpec)) rowBackCard

/-- THE TIED CARD OF 'tenterlaw21.SlotsPlays'. -/
def slotsPlaysCard : Claim7 := { stood := { row := slotsPlaysRow, standIns := [], harness := (true, "f492f83cfb7c20d568c9ad6e40775067f58125182b9b09b9f7eb64166ab7d426"), looks := false }, kinds := [], alts := [], laidByText := true, laidKinds := [.data], laidTests := true, laidLooks := .later }
def SlotsPlaysCardSaid : Prop := Claim7.holds Tryd.pinned (.plain (OpenSpec.ofChange slotsPlaysSpec)) slotsPlaysCard

/-- THE TIED CARD OF 'tenterlaw21.SlotsDense'. -/
def slotsDenseCard : Claim7 := { stood := { row := slotsDenseRow, standIns := [], harness := (true, "f492f83cfb7c20d568c9ad6e40775067f58125182b9b09b9f7eb64166ab7d426"), looks := false }, kinds := [], alts := [], laidByText := true, laidKinds := [.data], laidTests := true, laidLooks := .later }
def SlotsDenseCardSaid : Prop := Claim7.holds Tryd.pinned (.plain (OpenSpec.ofChange slotsDenseSpec)) slotsDenseCard

/-- THE TIED CARD OF 'tentertop.TopPacked'. -/
def topPackedCard : Claim7 := { stood := { row := topPackedRow, standIns := [], harness := (true, "f492f83cfb7c20d568c9ad6e40775067f58125182b9b09b9f7eb64166ab7d426"), looks := false }, kinds := [], alts := [], laidByText := true, laidKinds := [.data], laidTests := true, laidLooks := .later }
def TopPackedCardSaid : Prop := Claim7.holds Tryd.pinned (.plain (OpenSpec.ofChange topPackedSpec)) topPackedCard

/-- THE SECOND FORM's CARD OF 'tenterlaw01.RowPlays'. -/
def rowPlaysUptoCard : Claim7 := { stood := { row := rowPlaysUptoRow, standIns := [], harness := (true, "f492f83cfb7c20d568c9ad6e40775067f58125182b9b09b9f7eb64166ab7d426"), looks := false }, kinds := [], alts := [], laidByText := true, laidKinds := [.data], laidTests := true, laidLooks := .later }
def RowPlaysUptoCardSaid : Prop := Claim7.holds Tryd.pinned (.plain (OpenSpec.upto rowPlaysSpec)) rowPlaysUptoCard

/-- THE SECOND FORM's CARD OF 'tenterlaw01.RowCounts'. -/
def rowCountsUptoCard : Claim7 := { stood := { row := rowCountsUptoRow, standIns := [], harness := (true, "f492f83cfb7c20d568c9ad6e40775067f58125182b9b09b9f7eb64166ab7d426"), looks := false }, kinds := [], alts := [], laidByText := true, laidKinds := [.data], laidTests := true, laidLooks := .later }
def RowCountsUptoCardSaid : Prop := Claim7.holds Tryd.pinned (.plain (OpenSpec.upto rowCountsSpec)) rowCountsUptoCard

/-- THE SECOND FORM's CARD OF 'tenterlaw01.RowBack'. -/
def rowBackUptoCard : Claim7 := { stood := { row := rowBackUptoRow, standIns := [], harness := (true, "f492f83cfb7c20d568c9ad6e40775067f58125182b9b09b9f7eb64166ab7d426"), looks := false }, kinds := [], alts := [], laidByText := true, laidKinds := [.data], laidTests := true, laidLooks := .later }
def RowBackUptoCardSaid : Prop := Claim7.holds Tryd.pinned (.plain (OpenSpec.upto rowBackSpec)) rowBackUptoCard

/-- THE SECOND FORM's CARD OF 'tenterlaw21.SlotsPlays'. -/
def slotsPlaysUptoCard : Claim7 := { stood := { row := slotsPlaysUptoRow, standIns := [], harness := (true, "f492f83cfb7c20d568c9ad6e40775067f58125182b9b09b9f7eb64166ab7d426"), looks := false }, kinds := [], alts := [], laidByText := true, laidKinds := [.data], laidTests := true, laidLooks := .later }
def SlotsPlaysUptoCardSaid : Prop := Claim7.holds Tryd.pinned (.plain (OpenSpec.upto slotsPlaysSpec)) slotsPlaysUptoCard

/-- THE SECOND FORM's CARD OF 'tenterlaw21.SlotsDense'. -/
def slotsDenseUptoCard : Claim7 := { stood := { row := slotsDenseUptoRow, standIns := [], harness := (true, "f492f83cfb7c20d568c9ad6e40775067f58125182b9b09b9f7eb64166ab7d426"), looks := false }, kinds := [], alts := [], laidByText := true, laidKinds := [.data], laidTests := true, laidLooks := .later }
def SlotsDenseUptoCardSaid : Prop := Claim7.holds Tryd.pinned (.plain (OpenSpec.upto slotsDenseSpec)) slotsDenseUptoCard

/-- THE SECOND FORM's CARD OF 'tentertop.TopPacked'. -/
def topPackedUptoCard : Claim7 := { stood := { row := topPackedUptoRow, standIns := [], harness := (true, "f492f83cfb7c20d568c9ad6e40775067f58125182b9b09b9f7eb64166ab7d426"), looks := false }, kinds := [], alts := [], laidByText := true, laidKinds := [.data], laidTests := true, laidLooks := .later }
def TopPackedUptoCardSaid : Prop := Claim7.holds Tryd.pinned (.plain (OpenSpec.upto topPackedSpec)) topPackedUptoCard
end Rows
end Go.Proofs.YtoakpmbiplmpbaaDoor
