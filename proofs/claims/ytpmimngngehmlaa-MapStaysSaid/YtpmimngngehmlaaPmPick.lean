/-
  Contract of pick: a place among some. Not a statement of the seat.
-/
import Derived.Test.YtpmimngngehmlaaBase
namespace Go.Proofs.Ytpmimngngehmlaa.F
open Go.ChangeShapes Go.WideShapes Go.ChangeAt Go.RowKit Base
/-- What pick leaves. -/
def PickIs (n : Nat) (w : World) (e : Ending) (w' : World) : Prop := ∃ k : Nat, k < n ∧ e = .returned (.int .i64 (k : Int)) ∧ w = w'
set_option maxRecDepth 100000 in
theorem pmpick (i : Int) (n : Nat) (w : World) (hn : 0 < n) (hb : n ≤ 1000000) : Calls Try.prog 16 #[.int .i64 i, .int .i64 (n : Int)] w (PickIs n w) := by
  have hn0 : ((n : Int) == 0) = false := by rw [beq_eq_false_iff_ne]; omega
  have h1 : -(n : Int) < i.tmod (n : Int) ∧ i.tmod (n : Int) < (n : Int) := ⟨Int.lt_tmod_of_pos _ (by omega), Int.tmod_lt_of_pos _ (by omega)⟩
  have hw : IntKind.i64.wrap (i.tmod (n : Int)) = i.tmod (n : Int) := IntWalk.i64_in _ (by omega)
  go_enter Try.func16, Try.ntmps16
  go_wp2
  · go_ret
    exact ⟨(i.tmod (n : Int) + (n : Int)).toNat, by omega, ret_int (Int.toNat_of_nonneg (by omega)).symm, rfl⟩
  · go_ret
    exact ⟨(i.tmod (n : Int)).toNat, by omega, ret_int (Int.toNat_of_nonneg (by omega)).symm, rfl⟩
end Go.Proofs.Ytpmimngngehmlaa.F
