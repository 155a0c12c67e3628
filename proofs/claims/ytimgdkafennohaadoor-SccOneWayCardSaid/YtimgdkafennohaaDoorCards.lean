/-
  DERIVED. GIVEN WITH THE SEED: THE CARDS: each row of YtimgdkafennohaaDoorRows.lean that lists a variable, with what it lists TIED to the program's text (the seventh form; the later family's looks); each row that meets fmt, with fmt's text TOLD by the authors' own Lean function (tested against real Go, not proved from fmt's source: count such statements apart). THE CARD IS WHAT COUNTS. Prove the row's statement (the work); the ties are given (YtimgdkafennohaaDoorTie.lean); close each card by the builder's one call (the guide's Derived/Test/ToyasCard.lean, 'card_holds'). Laid BY PROGRAM, IN A SANDBOX (cutbox-door.mjs). By AI agents, Wed Nov 11 2026. No macro, syntax, notation, axiom, sorry.
-/
import Derived.Test.YtimgdkafennohaaDoorRows
import GoSem.ClaimSeven
namespace Go.Proofs.YtimgdkafennohaaDoor
namespace Rows

/-- THE TIED CARD OF 'tenterlaw23.SccOneWay'. -/
def sccOneWayCard : Claim7 := { stood := { row := sccOneWayRow, standIns := [], harness := (true, "9d06c41b17bf4ac5ddfa743a87dcdd71488eefb6f451d77e8518e0aa1296a130"), looks := false }, kinds := [], alts := [], laidByText := true, laidKinds := [.data], laidTests := true, laidLooks := .later }
def SccOneWayCardSaid : Prop := Claim7.holds Tryd.pinned (.plain (OpenSpec.ofChange sccOneWaySpec)) sccOneWayCard

/-- THE SECOND FORM's CARD OF 'tenterlaw23.SccOneWay'. -/
def sccOneWayUptoCard : Claim7 := { stood := { row := sccOneWayUptoRow, standIns := [], harness := (true, "9d06c41b17bf4ac5ddfa743a87dcdd71488eefb6f451d77e8518e0aa1296a130"), looks := false }, kinds := [], alts := [], laidByText := true, laidKinds := [.data], laidTests := true, laidLooks := .later }
def SccOneWayUptoCardSaid : Prop := Claim7.holds Tryd.pinned (.plain (OpenSpec.upto sccOneWaySpec)) sccOneWayUptoCard
end Rows
end Go.Proofs.YtimgdkafennohaaDoor
