/-
  What a store of a whole struct leaves. Not a statement of the seat.
-/
import Derived.Test.YtakgepdlninnhaaDoorHead1
import Derived.Laws.Tables
import Derived.Laws.Rows
import Derived.Laws.CopyOwn
namespace Go.Proofs.YtakgepdlninnhaaDoor.F
open Go.ChangeShapes Go.WideShapes Go.ChangeAt Go.RowKit Base
/-- A block has another object, all else is as it was. -/
def Stored (w : World) (g : Nat) (o : Obj) (w' : World) : Prop := w'.os = w.os ∧ w'.tape = w.tape ∧ w'.output = w.output ∧ w'.heap.size = w.heap.size ∧ w'.heap[g]? = some o ∧ ∀ k, k ≠ g → w'.heap[k]? = w.heap[k]?
theorem Stored.below {B : Nat} {w0 w w' : World} {g : Nat} {o : Obj} (h : Stored w g o w') (hb : Below B w0 w) (hg : B ≤ g) : Below B w0 w' :=
  ⟨h.1.trans hb.os, h.2.1.trans hb.tape, h.2.2.1.trans hb.output, by rw [h.2.2.2.1]; exact hb.size, fun k hk => (h.2.2.2.2.2 k (by omega)).trans (hb.block k hk)⟩
theorem stored_setRow (w : World) (g : Nat) (old cs : Array Value) (t : TypeId) (hg : w.heap[g]? = some (.cells old t)) : Stored w g (.cells cs t) (w.setRow g cs) :=
  ⟨rfl, rfl, rfl, size_setRow _ _ _, setRow_heap _ _ _ _ _ _ hg, fun _ hk => setRow_other _ _ _ _ hk⟩
end Go.Proofs.YtakgepdlninnhaaDoor.F
