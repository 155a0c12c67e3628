/-
  Equality of structs of ints (Ver). Not a statement of the seat.
-/
import Derived.Test.YtphagkpnfbdncaaDoorFVer
namespace Go.Proofs.YtphagkpnfbdncaaDoor.F
open Go.ChangeShapes Go.WideShapes Go.ChangeAt Go.RowKit Base
/-- Are two alike? -/
def Ver.beq (x y : Ver) : Bool := decide (x.t = y.t) && decide (x.k = y.k) && decide (x.n = y.n)
theorem Ver.beq_iff (x y : Ver) : Ver.beq x y = true ↔ x = y := by
  unfold Ver.beq
  constructor
  · intro h
    simp only [Bool.and_eq_true, decide_eq_true_eq] at h
    cases x; cases y
    simp_all
  · intro h
    subst h
    simp
theorem Ver.beq_self (x : Ver) : Ver.beq x x = true := (Ver.beq_iff x x).2 rfl
set_option maxHeartbeats 4000000 in
theorem eq_ver (x y : Ver) (w : World) : (binOp .eql 46 (.agg #[.int .i64 x.t, .int .i64 x.k, .int .i64 x.n]) (.agg #[.int .i64 y.t, .int .i64 y.k, .int .i64 y.n])).run Tryd.prog w = .ok (.bool (Ver.beq x y)) w := by
  have u3 := Tryd.underlying3
  have a3 := Tryd.isAgg3
  have z3 := Tryd.sizeOf3
  have hS : Tryd.prog.underlying 46 = some (.struct (Tryd.prog.fieldsOf 46)) := by kernel_rfl
  have hp : Tryd.prog.stoodInHeld 46 = false := by kernel_rfl
  rw [run_eql_struct, show (10000 : Nat) = 9999 + 1 from rfl, run_equalIn_agg w 9999 46 _ _ hS hp]
  simp only [Program.fieldsOf, Tryd.underlying46]
  go_simp
  obtain ⟨x0, x1, x2⟩ := x
  obtain ⟨y0, y1, y2⟩ := y
  unfold Ver.beq
  by_cases h0 : x0 = y0 <;> by_cases h1 : x1 = y1 <;> by_cases h2 : x2 = y2 <;> simp [h0, h1, h2]
set_option maxHeartbeats 4000000 in
theorem ne_ver (x y : Ver) (w : World) : (binOp .neq 46 (.agg #[.int .i64 x.t, .int .i64 x.k, .int .i64 x.n]) (.agg #[.int .i64 y.t, .int .i64 y.k, .int .i64 y.n])).run Tryd.prog w = .ok (.bool (!Ver.beq x y)) w := by
  have u3 := Tryd.underlying3
  have a3 := Tryd.isAgg3
  have z3 := Tryd.sizeOf3
  have hS : Tryd.prog.underlying 46 = some (.struct (Tryd.prog.fieldsOf 46)) := by kernel_rfl
  have hp : Tryd.prog.stoodInHeld 46 = false := by kernel_rfl
  rw [run_neq_struct, show (10000 : Nat) = 9999 + 1 from rfl, run_equalIn_agg w 9999 46 _ _ hS hp]
  simp only [Program.fieldsOf, Tryd.underlying46]
  go_simp
  obtain ⟨x0, x1, x2⟩ := x
  obtain ⟨y0, y1, y2⟩ := y
  unfold Ver.beq
  by_cases h0 : x0 = y0 <;> by_cases h1 : x1 = y1 <;> by_cases h2 : x2 = y2 <;> simp [h0, h1, h2]
end Go.Proofs.YtphagkpnfbdncaaDoor.F
