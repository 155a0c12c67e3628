/-
  Contracts of queues: New, Len, Room, place, First. Not a statement of the seat.
-/
import Derived.Test.YtimgdkafennohaaDoorFqMath
import Derived.Test.YtimgdkafennohaaDoorShelf
import Derived.Test.YtimgdkafennohaaDoorLst
import Derived.Test.YtimgdkafennohaaDoorHead4
import Derived.Deep.QuietTactic
import Derived.RegionTactic
import Derived.BigRegion
import Derived.OwnWalk
import Derived.Laws.OwnMore
namespace Go.Proofs.YtimgdkafennohaaDoor.F
open Go.ChangeShapes Go.WideShapes Go.ChangeAt Go.RowKit Base
theorem fbounded (n : Int) (w : World) : Calls Tryd.prog 53 #[.int .i64 n] w fun e w' => e = .returned (.int .i64 ((roomOf n : Nat) : Int)) ∧ w = w' := by
  rw [roomOf_eq]
  go_enter Tryd.func53, Tryd.ntmps53
  go_wp2
  go_ret
  exact ⟨rfl, rfl⟩
/-- What First and Pop tell. -/
def fstV (xs : List Int) : Value := .tuple #[.int .i64 (xs.headD 0), .bool (!xs.isEmpty)]
end Go.Proofs.YtimgdkafennohaaDoor.F
