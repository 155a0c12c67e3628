/-
  Equality of structs of ints (Cel). Not a statement of the seat.
-/
import Derived.Test.YtidflgkefdlkfaaFCel
namespace Go.Proofs.Ytidflgkefdlkfaa.F
open Go.ChangeShapes Go.WideShapes Go.ChangeAt Go.RowKit Base
/-- Are two alike? -/
def Cel.beq (x y : Cel) : Bool := decide (x.l = y.l) && decide (x.r = y.r) && decide (x.k = y.k) && decide (x.v = y.v) && decide (x.s = y.s) && decide (x.h = y.h)
theorem Cel.beq_iff (x y : Cel) : Cel.beq x y = true ↔ x = y := by
  unfold Cel.beq
  constructor
  · intro h
    simp only [Bool.and_eq_true, decide_eq_true_eq] at h
    cases x; cases y
    simp_all
  · intro h
    subst h
    simp
theorem Cel.beq_self (x : Cel) : Cel.beq x x = true := (Cel.beq_iff x x).2 rfl
set_option maxHeartbeats 4000000 in
theorem eq_cel (x y : Cel) (w : World) : (binOp .eql 28 (.agg #[.int .i64 x.l, .int .i64 x.r, .int .i64 x.k, .int .i64 x.v, .int .i64 x.s, .int .i64 x.h]) (.agg #[.int .i64 y.l, .int .i64 y.r, .int .i64 y.k, .int .i64 y.v, .int .i64 y.s, .int .i64 y.h])).run Try.prog w = .ok (.bool (Cel.beq x y)) w := by
  have u3 := Try.underlying3
  have a3 := Try.isAgg3
  have z3 := Try.sizeOf3
  have hS : Try.prog.underlying 28 = some (.struct (Try.prog.fieldsOf 28)) := by kernel_rfl
  have hp : Try.prog.stoodInHeld 28 = false := by kernel_rfl
  rw [run_eql_struct, show (10000 : Nat) = 9999 + 1 from rfl, run_equalIn_agg w 9999 28 _ _ hS hp]
  simp only [Program.fieldsOf, Try.underlying28]
  go_simp
  obtain ⟨x0, x1, x2, x3, x4, x5⟩ := x
  obtain ⟨y0, y1, y2, y3, y4, y5⟩ := y
  unfold Cel.beq
  by_cases h0 : x0 = y0 <;> by_cases h1 : x1 = y1 <;> by_cases h2 : x2 = y2 <;> by_cases h3 : x3 = y3 <;> by_cases h4 : x4 = y4 <;> by_cases h5 : x5 = y5 <;> simp [h0, h1, h2, h3, h4, h5]
set_option maxHeartbeats 4000000 in
theorem ne_cel (x y : Cel) (w : World) : (binOp .neq 28 (.agg #[.int .i64 x.l, .int .i64 x.r, .int .i64 x.k, .int .i64 x.v, .int .i64 x.s, .int .i64 x.h]) (.agg #[.int .i64 y.l, .int .i64 y.r, .int .i64 y.k, .int .i64 y.v, .int .i64 y.s, .int .i64 y.h])).run Try.prog w = .ok (.bool (!Cel.beq x y)) w := by
  have u3 := Try.underlying3
  have a3 := Try.isAgg3
  have z3 := Try.sizeOf3
  have hS : Try.prog.underlying 28 = some (.struct (Try.prog.fieldsOf 28)) := by kernel_rfl
  have hp : Try.prog.stoodInHeld 28 = false := by kernel_rfl
  rw [run_neq_struct, show (10000 : Nat) = 9999 + 1 from rfl, run_equalIn_agg w 9999 28 _ _ hS hp]
  simp only [Program.fieldsOf, Try.underlying28]
  go_simp
  obtain ⟨x0, x1, x2, x3, x4, x5⟩ := x
  obtain ⟨y0, y1, y2, y3, y4, y5⟩ := y
  unfold Cel.beq
  by_cases h0 : x0 = y0 <;> by_cases h1 : x1 = y1 <;> by_cases h2 : x2 = y2 <;> by_cases h3 : x3 = y3 <;> by_cases h4 : x4 = y4 <;> by_cases h5 : x5 = y5 <;> simp [h0, h1, h2, h3, h4, h5]
end Go.Proofs.Ytidflgkefdlkfaa.F
