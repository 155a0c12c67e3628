/-
  DERIVED. GIVEN WITH THE SEED: THE CARDS: each row of YtakgepdlninnhaaDoorRows.lean that lists a variable, with what it lists TIED to the program's text (the seventh form; the later family's looks); each row that meets fmt, with fmt's text TOLD by the authors' own Lean function (tested against real Go, not proved from fmt's source: count such statements apart). THE CARD IS WHAT COUNTS. Prove the row's statement (the work); the ties are given (YtakgepdlninnhaaDoorTie.lean); close each card by the builder's one call (the guide's Derived/Test/ToyasCard.lean, 'card_holds'). Laid BY PROGRAM, IN A SANDBOX (cutbox-door.mjs). By AI agents, Wed Nov 11 2026. No macro, syntax, notation, axiom, sorry.
-/
import Derived.Test.YtakgepdlninnhaaDoorRows
import GoSem.ClaimSeven
namespace Go.Proofs.YtakgepdlninnhaaDoor
namespace Rows

/-- THE TIED CARD OF 'tenterlaw24.ClosurePlays'. -/
def closurePlaysCard : Claim7 := { stood := { row := closurePlaysRow, standIns := [], harness := (true, "3fbf3427c564a707877b42eb3eb36c83d94f90bee77b994197d3dbc2e3f25d92"), looks := false }, kinds := [], alts := [], laidByText := true, laidKinds := [.data], laidTests := true, laidLooks := .later }
def ClosurePlaysCardSaid : Prop := Claim7.holds Tryd.pinned (.plain (OpenSpec.ofChange closurePlaysSpec)) closurePlaysCard

/-- THE TIED CARD OF 'tenterlaw24.ClosureWay'. -/
def closureWayCard : Claim7 := { stood := { row := closureWayRow, standIns := [], harness := (true, "3fbf3427c564a707877b42eb3eb36c83d94f90bee77b994197d3dbc2e3f25d92"), looks := false }, kinds := [], alts := [], laidByText := true, laidKinds := [.data], laidTests := true, laidLooks := .later }
def ClosureWayCardSaid : Prop := Claim7.holds Tryd.pinned (.plain (OpenSpec.ofChange closureWaySpec)) closureWayCard

/-- THE SECOND FORM's CARD OF 'tenterlaw24.ClosurePlays'. -/
def closurePlaysUptoCard : Claim7 := { stood := { row := closurePlaysUptoRow, standIns := [], harness := (true, "3fbf3427c564a707877b42eb3eb36c83d94f90bee77b994197d3dbc2e3f25d92"), looks := false }, kinds := [], alts := [], laidByText := true, laidKinds := [.data], laidTests := true, laidLooks := .later }
def ClosurePlaysUptoCardSaid : Prop := Claim7.holds Tryd.pinned (.plain (OpenSpec.upto closurePlaysSpec)) closurePlaysUptoCard

/-- THE SECOND FORM's CARD OF 'tenterlaw24.ClosureWay'. -/
def closureWayUptoCard : Claim7 := { stood := { row := closureWayUptoRow, standIns := [], harness := (true, "3fbf3427c564a707877b42eb3eb36c83d94f90bee77b994197d3dbc2e3f25d92"), looks := false }, kinds := [], alts := [], laidByText := true, laidKinds := [.data], laidTests := true, laidLooks := .later }
def ClosureWayUptoCardSaid : Prop := Claim7.holds Tryd.pinned (.plain (OpenSpec.upto closureWaySpec)) closureWayUptoCard
end Rows
end Go.Proofs.YtakgepdlninnhaaDoor
