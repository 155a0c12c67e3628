/-
  Contracts of queues: New, Len, Room, place, First. Not a statement of the seat.
-/
import Derived.Test.YtimgdkafennohaaGreatDoorFqMath
import Derived.Test.YtimgdkafennohaaGreatDoorShelf
import Derived.Test.YtimgdkafennohaaGreatDoorLst
import Derived.Test.YtimgdkafennohaaGreatDoorHead4
import Derived.Deep.QuietTactic
import Derived.RegionTactic
import Derived.BigRegion
import Derived.OwnWalk
import Derived.Laws.OwnMore
namespace Go.Proofs.YtimgdkafennohaaGreatDoor.F
open Go.ChangeShapes Go.WideShapes Go.ChangeAt Go.RowKit Base
theorem fbounded (n : Int) (w : World) : Calls Tryz.prog 62 #[.int .i64 n] w fun e w' => e = .returned (.int .i64 ((roomOf n : Nat) : Int)) ∧ w = w' := by
  rw [roomOf_eq]
  go_enter Tryz.func62, Tryz.ntmps62
  go_wp2
  go_ret
  exact ⟨rfl, rfl⟩
/-- What First and Pop tell. -/
def fstV (xs : List Int) : Value := .tuple #[.int .i64 (xs.headD 0), .bool (!xs.isEmpty)]
end Go.Proofs.YtimgdkafennohaaGreatDoor.F
