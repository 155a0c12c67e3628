/-
  Contract of the document's own answer on arenas: Room. Not a statement of the seat.
-/
import Derived.Test.YtpmimngngehmlaaAr1
namespace Go.Proofs.Ytpmimngngehmlaa.F
open Go.ChangeShapes Go.WideShapes Go.ChangeAt Go.RowKit Base
theorem room_ref (n : Int) (w : World) : Calls Try.prog 40 #[.int .i64 n] w fun e w' => e = .returned (.int .i64 (roomOf n : Nat)) ∧ w = w' := by
  rw [roomOf_eq]
  by_cases h1 : n < 0
  · rw [show min (max n 0) 65536 = 0 by omega]
    go_enter Try.func40, Try.ntmps40
    go_wp2
    go_ret
    exact ⟨rfl, rfl⟩
  · have h1' : 0 ≤ n := by omega
    by_cases h2 : 65536 < n
    · rw [show min (max n 0) 65536 = 65536 by omega]
      clear h1
      go_enter Try.func40, Try.ntmps40
      go_wp2
      go_ret
      exact ⟨rfl, rfl⟩
    · rw [show min (max n 0) 65536 = n by omega]
      clear h1
      go_enter Try.func40, Try.ntmps40
      go_wp2
      go_ret
      exact ⟨rfl, rfl⟩
end Go.Proofs.Ytpmimngngehmlaa.F
