/-
  DERIVED. GIVEN WITH THE SEED: THE CARDS: each row of YtjgmncpapcmleaaDoorRows.lean that lists a variable, with what it lists TIED to the program's text (the seventh form; the later family's looks); each row that meets fmt, with fmt's text TOLD by the authors' own Lean function (tested against real Go, not proved from fmt's source: count such statements apart). THE CARD IS WHAT COUNTS. Prove the row's statement (the work); the ties are given (YtjgmncpapcmleaaDoorTie.lean); close each card by the builder's one call (the guide's Derived/Test/ToyasCard.lean, 'card_holds'). Laid BY PROGRAM, IN A SANDBOX (cutbox-door.mjs). By AI agents, Wed Nov 11 2026. No macro, syntax, notation, axiom, sorry.
-/
import Derived.Test.YtjgmncpapcmleaaDoorRows
import GoSem.ClaimSeven
namespace Go.Proofs.YtjgmncpapcmleaaDoor
namespace Rows

/-- THE TIED CARD OF 'tenterlaw09.OpReads'. -/
def opReadsCard : Claim7 := { stood := { row := opReadsRow, standIns := [], harness := (true, "175669cc49710e768ac962edbf446b0afdf1b39b7eaebb6ec7494cafda971f6a"), looks := false }, kinds := [], alts := [], laidByText := true, laidKinds := [.data, .data, .data, .data, .pinned], laidTests := true, laidLooks := .later }
def OpReadsCardSaid : Prop := Claim7.holds Tryd.pinned (.plain (OpenSpec.ofChange opReadsSpec)) opReadsCard

/-- THE TIED CARD OF 'tenterlaw09.OpBack'. -/
def opBackCard : Claim7 := { stood := { row := opBackRow, standIns := [], harness := (true, "175669cc49710e768ac962edbf446b0afdf1b39b7eaebb6ec7494cafda971f6a"), looks := false }, kinds := [], alts := [], laidByText := true, laidKinds := [.data, .data, .data, .data, .pinned], laidTests := true, laidLooks := .later }
def OpBackCardSaid : Prop := Claim7.holds Tryd.pinned (.plain (OpenSpec.ofChange opBackSpec)) opBackCard

/-- THE TIED CARD OF 'tenterlaw10.TxnTells'. -/
def txnTellsCard : Claim7 := { stood := { row := txnTellsRow, standIns := [], harness := (true, "175669cc49710e768ac962edbf446b0afdf1b39b7eaebb6ec7494cafda971f6a"), looks := false }, kinds := [], alts := [], laidByText := true, laidKinds := [.data, .data, .data], laidTests := true, laidLooks := .later }
def TxnTellsCardSaid : Prop := Claim7.holds Tryd.pinned (.plain (OpenSpec.ofChange txnTellsSpec)) txnTellsCard

/-- THE TIED CARD OF 'tenterlaw10.TxnBare'. -/
def txnBareCard : Claim7 := { stood := { row := txnBareRow, standIns := [], harness := (true, "175669cc49710e768ac962edbf446b0afdf1b39b7eaebb6ec7494cafda971f6a"), looks := false }, kinds := [], alts := [], laidByText := true, laidKinds := [.data, .data, .data], laidTests := true, laidLooks := .later }
def TxnBareCardSaid : Prop := Claim7.holds Tryd.pinned (.plain (OpenSpec.ofChange txnBareSpec)) txnBareCard

/-- THE SECOND FORM's CARD OF 'tenterlaw09.OpReads'. -/
def opReadsUptoCard : Claim7 := { stood := { row := opReadsUptoRow, standIns := [], harness := (true, "175669cc49710e768ac962edbf446b0afdf1b39b7eaebb6ec7494cafda971f6a"), looks := false }, kinds := [], alts := [], laidByText := true, laidKinds := [.data, .data, .data, .data, .pinned], laidTests := true, laidLooks := .later }
def OpReadsUptoCardSaid : Prop := Claim7.holds Tryd.pinned (.plain (OpenSpec.upto opReadsSpec)) opReadsUptoCard

/-- THE SECOND FORM's CARD OF 'tenterlaw09.OpBack'. -/
def opBackUptoCard : Claim7 := { stood := { row := opBackUptoRow, standIns := [], harness := (true, "175669cc49710e768ac962edbf446b0afdf1b39b7eaebb6ec7494cafda971f6a"), looks := false }, kinds := [], alts := [], laidByText := true, laidKinds := [.data, .data, .data, .data, .pinned], laidTests := true, laidLooks := .later }
def OpBackUptoCardSaid : Prop := Claim7.holds Tryd.pinned (.plain (OpenSpec.upto opBackSpec)) opBackUptoCard

/-- THE SECOND FORM's CARD OF 'tenterlaw10.TxnTells'. -/
def txnTellsUptoCard : Claim7 := { stood := { row := txnTellsUptoRow, standIns := [], harness := (true, "175669cc49710e768ac962edbf446b0afdf1b39b7eaebb6ec7494cafda971f6a"), looks := false }, kinds := [], alts := [], laidByText := true, laidKinds := [.data, .data, .data], laidTests := true, laidLooks := .later }
def TxnTellsUptoCardSaid : Prop := Claim7.holds Tryd.pinned (.plain (OpenSpec.upto txnTellsSpec)) txnTellsUptoCard

/-- THE SECOND FORM's CARD OF 'tenterlaw10.TxnBare'. -/
def txnBareUptoCard : Claim7 := { stood := { row := txnBareUptoRow, standIns := [], harness := (true, "175669cc49710e768ac962edbf446b0afdf1b39b7eaebb6ec7494cafda971f6a"), looks := false }, kinds := [], alts := [], laidByText := true, laidKinds := [.data, .data, .data], laidTests := true, laidLooks := .later }
def TxnBareUptoCardSaid : Prop := Claim7.holds Tryd.pinned (.plain (OpenSpec.upto txnBareSpec)) txnBareUptoCard
end Rows
end Go.Proofs.YtjgmncpapcmleaaDoor
