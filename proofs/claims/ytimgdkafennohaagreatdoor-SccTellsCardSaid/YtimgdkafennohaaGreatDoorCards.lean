/-
  DERIVED. GIVEN WITH THE SEED: THE CARDS: each row of YtimgdkafennohaaGreatDoorRows.lean that lists a variable, with what it lists TIED to the program's text (the seventh form; the later family's looks); each row that meets fmt, with fmt's text TOLD by the authors' own Lean function (tested against real Go, not proved from fmt's source: count such statements apart). THE CARD IS WHAT COUNTS. Prove the row's statement (the work); the ties are given (YtimgdkafennohaaGreatDoorTie.lean); close each card by the builder's one call (the guide's Derived/Test/ToyasCard.lean, 'card_holds'). Laid BY PROGRAM, IN A SANDBOX (cutbox-door.mjs). By AI agents, Wed Nov 11 2026. No macro, syntax, notation, axiom, sorry.
-/
import Derived.Test.YtimgdkafennohaaGreatDoorRows
import GoSem.ClaimSeven
namespace Go.Proofs.YtimgdkafennohaaGreatDoor
namespace Rows

/-- THE TIED CARD OF 'tenterlaw23.SccTells'. -/
def sccTellsCard : Claim7 := { stood := { row := sccTellsRow, standIns := [], harness := (true, "417ff37e63f0d40e3809f0c1f852fec4f8160b99d0d1b004975dd479588a6efe"), looks := false }, kinds := [], alts := [], laidByText := true, laidKinds := [.data], laidTests := true, laidLooks := .later }
def SccTellsCardSaid : Prop := Claim7.holds Tryz.pinned (.plain (OpenSpec.ofChange sccTellsSpec)) sccTellsCard

/-- THE SECOND FORM's CARD OF 'tenterlaw23.SccTells'. -/
def sccTellsUptoCard : Claim7 := { stood := { row := sccTellsUptoRow, standIns := [], harness := (true, "417ff37e63f0d40e3809f0c1f852fec4f8160b99d0d1b004975dd479588a6efe"), looks := false }, kinds := [], alts := [], laidByText := true, laidKinds := [.data], laidTests := true, laidLooks := .later }
def SccTellsUptoCardSaid : Prop := Claim7.holds Tryz.pinned (.plain (OpenSpec.upto sccTellsSpec)) sccTellsUptoCard
end Rows
end Go.Proofs.YtimgdkafennohaaGreatDoor
