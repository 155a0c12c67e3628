/-
  Contract of the document's Right of transactions. Not a statement of the seat.
-/
import Derived.Test.YtiiipnfkkdfgbaaHead3
import Derived.Test.YtiiipnfkkdfgbaaOp2
import Derived.Test.YtiiipnfkkdfgbaaHead14
import Derived.Lib.QuietBelow
namespace Go.Proofs.Ytiiipnfkkdfgbaa.Tx
open Go.ChangeShapes Go.WideShapes Go.ChangeAt Go.RowKit Base F Lst Nu Go.Lib
/-- On the way: the transaction's box. -/
def RR (w wr : World) (id : Int) (d : Bool) (s : Value) : Prop := wr.heap[w.heap.size]? = some (boxT id d s) ∧ Aft w wr
theorem RR.aft {w wr W : World} {id : Int} {d : Bool} {s : Value} (h : RR w wr id d s) (ha : Aft wr W) : RR w W id d s := ⟨(ha.block _ (heap_lt h.1)).trans h.1, h.2.trans ha⟩
end Go.Proofs.Ytiiipnfkkdfgbaa.Tx
