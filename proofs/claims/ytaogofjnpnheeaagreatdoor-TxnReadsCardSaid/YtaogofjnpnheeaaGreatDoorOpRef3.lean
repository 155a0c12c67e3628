/-
  Contract of the document's own answer on operations' texts: Read. Not a statement of the seat.
-/
import Derived.Test.YtaogofjnpnheeaaGreatDoorOpRef2
import Derived.Test.YtaogofjnpnheeaaGreatDoorOp2
import Derived.Test.YtaogofjnpnheeaaGreatDoorTxtAp
import Derived.Test.YtaogofjnpnheeaaGreatDoorOpNums
import Derived.Test.YtaogofjnpnheeaaGreatDoorHead
import Derived.Deep.Cut
import Derived.Deep.CutRange
import Derived.Deep.DeepCutAuto
namespace Go.Proofs.YtaogofjnpnheeaaGreatDoor.Op
open Go.ChangeShapes Go.WideShapes Go.ChangeAt Go.RowKit Base Nu F Go.Lib Lst
/-- What reading leaves. -/
def RdPost (l : List UInt8) (w : World) (e : Ending) (w' : World) : Prop :=
  e = .returned (.tuple #[.agg #[.bool (readO l).1.rd, .int .i64 (readO l).1.k, .int .i64 (readO l).1.t, .int .i64 (readO l).1.n], .int .i64 (readO l).2]) ∧ Below w.heap.size w w'
theorem readO_form {l : List UInt8} (h : parts l = []) : readO l = (Opr.zero, 5) := by unfold readO; rw [if_pos h]
theorem rd_form {l : List UInt8} (h : parts l = []) {w w' : World} (hb : Below w.heap.size w w') : RdPost l w (.returned (.tuple #[.agg #[.bool false, .int .i64 0, .int .i64 0, .int .i64 0], .int .i64 5])) w' := by
  unfold RdPost
  rw [readO_form h]
  exact ⟨rfl, hb⟩
end Go.Proofs.YtaogofjnpnheeaaGreatDoor.Op
