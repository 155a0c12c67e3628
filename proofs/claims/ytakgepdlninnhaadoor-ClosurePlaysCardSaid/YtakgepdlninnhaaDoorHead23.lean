/-
  Contracts of small functions, several texts laid into one. Not a statement of the seat.
-/
import Derived.Test.YtakgepdlninnhaaDoorHead29
import Derived.Deep.RegionHeld3
import Derived.Deep.OwnRows
import Derived.Lib.ItoaNum
import Derived.Test.YtakgepdlninnhaaDoorHead11
namespace Go.Proofs.YtakgepdlninnhaaDoor.F
open Go.ChangeShapes Go.WideShapes Go.ChangeAt Go.RowKit Base
/-- How long a ring is made. -/
theorem ring_len (r : Nat) (hr : r ≤ 65536) : r ≤ 2 ^ Lib.bitLen (max r 1 - 1) ∧ Lib.bitLen (max r 1 - 1) ≤ 16 := by
  unfold Lib.bitLen
  by_cases h0 : max r 1 - 1 = 0
  · rw [h0, Lib.bitLenAux_zero]; omega
  · obtain ⟨h1, h2, h3⟩ := Lib.bitLenAux_bounds 64 (max r 1 - 1) (by omega) h0
    refine ⟨by omega, ?_⟩
    have h4 : 2 ^ (Lib.bitLenAux 64 (max r 1 - 1) - 1) < 2 ^ 16 := by omega
    have := (Nat.pow_lt_pow_iff_right (by decide : 1 < 2)).1 h4
    omega
end Go.Proofs.YtakgepdlninnhaaDoor.F
namespace Go.Proofs.YtakgepdlninnhaaDoor.F
open Go.ChangeShapes Go.WideShapes Go.ChangeAt Go.RowKit Base
end Go.Proofs.YtakgepdlninnhaaDoor.F
namespace Go.Proofs.YtakgepdlninnhaaDoor.F
open Go.ChangeShapes Go.WideShapes Go.ChangeAt Go.RowKit Base
/-- What a call that makes a list of ints leaves: one of its own. -/
def OwnNew (xs : List Int) (w : World) (e : Ending) (w' : World) : Prop := ∃ v, e = .returned v ∧ Lst.OwnI w.heap.size w' v xs ∧ Below w.heap.size w w'
end Go.Proofs.YtakgepdlninnhaaDoor.F
