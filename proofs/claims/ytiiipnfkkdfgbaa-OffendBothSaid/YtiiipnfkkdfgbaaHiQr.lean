/-
  Histories: contract of the document's Right. Not a statement of the seat.
-/
import Derived.Test.YtiiipnfkkdfgbaaHead6
import Derived.Test.YtiiipnfkkdfgbaaHiL
import Derived.Test.YtiiipnfkkdfgbaaTxR3
import Derived.Test.YtiiipnfkkdfgbaaHead5
namespace Go.Proofs.Ytiiipnfkkdfgbaa.Hi
open Go.ChangeShapes Go.WideShapes Go.ChangeAt Go.RowKit Base F Tx Lst Go.Sort
/-- All is right as far as the k-th transaction. -/
def P1 (h : Hist) (k : Nat) : Prop := (∀ j, j < k → rightT (h.txs.getD j Txn.zero).id (h.txs.getD j Txn.zero).ops = 0 ∧ needsB h (h.txs.getD j Txn.zero) = true) ∧ ∀ j, j + 1 < k → (h.txs.getD j Txn.zero).id < (h.txs.getD (j + 1) Txn.zero).id
theorem P1.next {h : Hist} {k : Nat} (h1 : P1 h k) (h2 : rightT (h.txs.getD k Txn.zero).id (h.txs.getD k Txn.zero).ops = 0) (h3 : needsB h (h.txs.getD k Txn.zero) = true) (h4 : ∀ j, k = j + 1 → (h.txs.getD j Txn.zero).id < (h.txs.getD k Txn.zero).id) : P1 h (k + 1) :=
  ⟨fun j hj => if e : j = k then e ▸ ⟨h2, h3⟩ else h1.1 j (by omega), fun j hj => if e : j + 1 = k then by have := h4 j e.symm; rw [e]; exact this else h1.2 j (by omega)⟩
/-- All orders are right as far as the k-th. -/
def P2 (h : Hist) (k : Nat) : Prop := ∀ j, j < k → (h.ords.getD j Ordr.zero).key = (KW h.txs).getD j 0 ∧ Om.permB (h.ords.getD j Ordr.zero).txs (wrsL h.txs (h.ords.getD j Ordr.zero).key) = true
theorem P2.next {h : Hist} {k : Nat} (h1 : P2 h k) (h2 : (h.ords.getD k Ordr.zero).key = (KW h.txs).getD k 0) (h3 : Om.permB (h.ords.getD k Ordr.zero).txs (wrsL h.txs (h.ords.getD k Ordr.zero).key) = true) : P2 h (k + 1) :=
  fun j hj => if e : j = k then e ▸ ⟨h2, h3⟩ else h1 j (by omega)
end Go.Proofs.Ytiiipnfkkdfgbaa.Hi
