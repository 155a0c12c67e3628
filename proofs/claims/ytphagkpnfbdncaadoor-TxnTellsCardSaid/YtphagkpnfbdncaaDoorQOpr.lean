/-
  Equality of structs of ints (Opr). Not a statement of the seat.
-/
import Derived.Test.YtphagkpnfbdncaaDoorFOpr
namespace Go.Proofs.YtphagkpnfbdncaaDoor.F
open Go.ChangeShapes Go.WideShapes Go.ChangeAt Go.RowKit Base
/-- Are two alike? -/
def Opr.beq (x y : Opr) : Bool := decide (x.rd = y.rd) && decide (x.k = y.k) && decide (x.t = y.t) && decide (x.n = y.n)
theorem Opr.beq_iff (x y : Opr) : Opr.beq x y = true ↔ x = y := by
  unfold Opr.beq
  constructor
  · intro h
    simp only [Bool.and_eq_true, decide_eq_true_eq] at h
    cases x; cases y
    simp_all
  · intro h
    subst h
    simp
theorem Opr.beq_self (x : Opr) : Opr.beq x x = true := (Opr.beq_iff x x).2 rfl
set_option maxHeartbeats 4000000 in
theorem eq_opr (x y : Opr) (w : World) : (binOp .eql 44 (.agg #[.bool x.rd, .int .i64 x.k, .int .i64 x.t, .int .i64 x.n]) (.agg #[.bool y.rd, .int .i64 y.k, .int .i64 y.t, .int .i64 y.n])).run Tryd.prog w = .ok (.bool (Opr.beq x y)) w := by
  have u3 := Tryd.underlying3
  have a3 := Tryd.isAgg3
  have z3 := Tryd.sizeOf3
  have u4 := Tryd.underlying4
  have a4 := Tryd.isAgg4
  have z4 := Tryd.sizeOf4
  have hS : Tryd.prog.underlying 44 = some (.struct (Tryd.prog.fieldsOf 44)) := by kernel_rfl
  have hp : Tryd.prog.stoodInHeld 44 = false := by kernel_rfl
  rw [run_eql_struct, show (10000 : Nat) = 9999 + 1 from rfl, run_equalIn_agg w 9999 44 _ _ hS hp]
  simp only [Program.fieldsOf, Tryd.underlying44]
  go_simp
  obtain ⟨x0, x1, x2, x3⟩ := x
  obtain ⟨y0, y1, y2, y3⟩ := y
  unfold Opr.beq
  by_cases h0 : x0 = y0 <;> by_cases h1 : x1 = y1 <;> by_cases h2 : x2 = y2 <;> by_cases h3 : x3 = y3 <;> simp [h0, h1, h2, h3]
set_option maxHeartbeats 4000000 in
theorem ne_opr (x y : Opr) (w : World) : (binOp .neq 44 (.agg #[.bool x.rd, .int .i64 x.k, .int .i64 x.t, .int .i64 x.n]) (.agg #[.bool y.rd, .int .i64 y.k, .int .i64 y.t, .int .i64 y.n])).run Tryd.prog w = .ok (.bool (!Opr.beq x y)) w := by
  have u3 := Tryd.underlying3
  have a3 := Tryd.isAgg3
  have z3 := Tryd.sizeOf3
  have u4 := Tryd.underlying4
  have a4 := Tryd.isAgg4
  have z4 := Tryd.sizeOf4
  have hS : Tryd.prog.underlying 44 = some (.struct (Tryd.prog.fieldsOf 44)) := by kernel_rfl
  have hp : Tryd.prog.stoodInHeld 44 = false := by kernel_rfl
  rw [run_neq_struct, show (10000 : Nat) = 9999 + 1 from rfl, run_equalIn_agg w 9999 44 _ _ hS hp]
  simp only [Program.fieldsOf, Tryd.underlying44]
  go_simp
  obtain ⟨x0, x1, x2, x3⟩ := x
  obtain ⟨y0, y1, y2, y3⟩ := y
  unfold Opr.beq
  by_cases h0 : x0 = y0 <;> by_cases h1 : x1 = y1 <;> by_cases h2 : x2 = y2 <;> by_cases h3 : x3 = y3 <;> simp [h0, h1, h2, h3]
end Go.Proofs.YtphagkpnfbdncaaDoor.F
