/-
  DERIVED. GIVEN WITH THE SEED: THE CARDS: each row of YtkkpjgflccndaaaDoorRows.lean that lists a variable, with what it lists TIED to the program's text (the seventh form; the later family's looks); each row that meets fmt, with fmt's text TOLD by the authors' own Lean function (tested against real Go, not proved from fmt's source: count such statements apart). THE CARD IS WHAT COUNTS. Prove the row's statement (the work); the ties are given (YtkkpjgflccndaaaDoorTie.lean); close each card by the builder's one call (the guide's Derived/Test/ToyasCard.lean, 'card_holds'). Laid BY PROGRAM, IN A SANDBOX (cutbox-door.mjs). By AI agents, Wed Nov 11 2026. No macro, syntax, notation, axiom, sorry.
-/
import Derived.Test.YtkkpjgflccndaaaDoorRows
import GoSem.ClaimSeven
namespace Go.Proofs.YtkkpjgflccndaaaDoor
namespace Rows

/-- THE TIED CARD OF 'tenterlaw21.SlotsPlays'. -/
def slotsPlaysCard : Claim7 := { stood := { row := slotsPlaysRow, standIns := [], harness := (true, "29d270a18165f3eb097d114d86f9f7cff5fc83dfc4d91f1a6ceb3dd04ddb65b3"), looks := false }, kinds := [], alts := [], laidByText := true, laidKinds := [.data], laidTests := true, laidLooks := .later }
def SlotsPlaysCardSaid : Prop := Claim7.holds Tryd.pinned (.plain (OpenSpec.ofChange slotsPlaysSpec)) slotsPlaysCard

/-- THE TIED CARD OF 'tenterlaw21.SlotsDense'. -/
def slotsDenseCard : Claim7 := { stood := { row := slotsDenseRow, standIns := [], harness := (true, "29d270a18165f3eb097d114d86f9f7cff5fc83dfc4d91f1a6ceb3dd04ddb65b3"), looks := false }, kinds := [], alts := [], laidByText := true, laidKinds := [.data], laidTests := true, laidLooks := .later }
def SlotsDenseCardSaid : Prop := Claim7.holds Tryd.pinned (.plain (OpenSpec.ofChange slotsDenseSpec)) slotsDenseCard

/-- THE SECOND FORM's CARD OF 'tenterlaw21.SlotsPlays'. -/
def slotsPlaysUptoCard : Claim7 := { stood := { row := slotsPlaysUptoRow, standIns := [], harness := (true, "29d270a18165f3eb097d114d86f9f7cff5fc83dfc4d91f1a6ceb3dd04ddb65b3"), looks := false }, kinds := [], alts := [], laidByText := true, laidKinds := [.data], laidTests := true, laidLooks := .later }
def SlotsPlaysUptoCardSaid : Prop := Claim7.holds Tryd.pinned (.plain (OpenSpec.upto slotsPlaysSpec)) slotsPlaysUptoCard

/-- THE SECOND FORM's CARD OF 'tenterlaw21.SlotsDense'. -/
def slotsDenseUptoCard : Claim7 := { stood := { row := slotsDenseUptoRow, standIns := [], harness := (true, "29d270a18165f3eb097d114d86f9f7cff5fc83dfc4d91f1a6ceb3dd04ddb65b3"), looks := false }, kinds := [], alts := [], laidByText := true, laidKinds := [.data], laidTests := true, laidLooks := .later }
def SlotsDenseUptoCardSaid : Prop := Claim7.holds Tryd.pinned (.plain (OpenSpec.upto slotsDenseSpec)) slotsDenseUptoCard
end Rows
end Go.Proofs.YtkkpjgflccndaaaDoor
