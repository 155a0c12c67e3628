/-
  DERIVED. GIVEN WITH THE SEED: THE CARDS: each row of YtphagkpnfbdncaaDoorRows.lean that lists a variable, with what it lists TIED to the program's text (the seventh form; the later family's looks); each row that meets fmt, with fmt's text TOLD by the authors' own Lean function (tested against real Go, not proved from fmt's source: count such statements apart). THE CARD IS WHAT COUNTS. Prove the row's statement (the work); the ties are given (YtphagkpnfbdncaaDoorTie.lean); close each card by the builder's one call (the guide's Derived/Test/ToyasCard.lean, 'card_holds'). Laid BY PROGRAM, IN A SANDBOX (cutbox-door.mjs). By AI agents, Wed Nov 11 2026. No macro, syntax, notation, axiom, sorry.
-/
import Derived.Test.YtphagkpnfbdncaaDoorRows
import GoSem.ClaimSeven
namespace Go.Proofs.YtphagkpnfbdncaaDoor
namespace Rows

/-- THE TIED CARD OF 'tenterlaw10.TxnTells'. -/
def txnTellsCard : Claim7 := { stood := { row := txnTellsRow, standIns := [], harness := (true, "f094165b61b4436de96cd7a2a7f874e6be02b9d658cccdf4375a08fc6a4f7329"), looks := false }, kinds := [], alts := [], laidByText := true, laidKinds := [.data, .data, .data], laidTests := true, laidLooks := .later }
def TxnTellsCardSaid : Prop := Claim7.holds Tryd.pinned (.plain (OpenSpec.ofChange txnTellsSpec)) txnTellsCard

/-- THE TIED CARD OF 'tenterlaw10.TxnBare'. -/
def txnBareCard : Claim7 := { stood := { row := txnBareRow, standIns := [], harness := (true, "f094165b61b4436de96cd7a2a7f874e6be02b9d658cccdf4375a08fc6a4f7329"), looks := false }, kinds := [], alts := [], laidByText := true, laidKinds := [.data, .data, .data], laidTests := true, laidLooks := .later }
def TxnBareCardSaid : Prop := Claim7.holds Tryd.pinned (.plain (OpenSpec.ofChange txnBareSpec)) txnBareCard

/-- THE SECOND FORM's CARD OF 'tenterlaw10.TxnTells'. -/
def txnTellsUptoCard : Claim7 := { stood := { row := txnTellsUptoRow, standIns := [], harness := (true, "f094165b61b4436de96cd7a2a7f874e6be02b9d658cccdf4375a08fc6a4f7329"), looks := false }, kinds := [], alts := [], laidByText := true, laidKinds := [.data, .data, .data], laidTests := true, laidLooks := .later }
def TxnTellsUptoCardSaid : Prop := Claim7.holds Tryd.pinned (.plain (OpenSpec.upto txnTellsSpec)) txnTellsUptoCard

/-- THE SECOND FORM's CARD OF 'tenterlaw10.TxnBare'. -/
def txnBareUptoCard : Claim7 := { stood := { row := txnBareUptoRow, standIns := [], harness := (true, "f094165b61b4436de96cd7a2a7f874e6be02b9d658cccdf4375a08fc6a4f7329"), looks := false }, kinds := [], alts := [], laidByText := true, laidKinds := [.data, .data, .data], laidTests := true, laidLooks := .later }
def TxnBareUptoCardSaid : Prop := Claim7.holds Tryd.pinned (.plain (OpenSpec.upto txnBareSpec)) txnBareUptoCard
end Rows
end Go.Proofs.YtphagkpnfbdncaaDoor
