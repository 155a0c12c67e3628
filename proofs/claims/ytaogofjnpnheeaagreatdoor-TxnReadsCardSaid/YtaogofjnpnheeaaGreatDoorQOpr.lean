/-
  Equality of structs of ints (Opr). Not a statement of the seat.
-/
import Derived.Test.YtaogofjnpnheeaaGreatDoorHead
namespace Go.Proofs.YtaogofjnpnheeaaGreatDoor.F
open Go.ChangeShapes Go.WideShapes Go.ChangeAt Go.RowKit Base
/-- Are two alike? -/
def Opr.beq (x y : Opr) : Bool := decide (x.rd = y.rd) && decide (x.k = y.k) && decide (x.t = y.t) && decide (x.n = y.n)
theorem Opr.beq_iff (x y : Opr) : Opr.beq x y = true ↔ x = y := by
  unfold Opr.beq
  constructor
  · intro h
    simp only [Bool.and_eq_true, decide_eq_true_eq] at h
    cases x; cases y
    simp_all
  · intro h
    subst h
    simp
theorem Opr.beq_self (x : Opr) : Opr.beq x x = true := (Opr.beq_iff x x).2 rfl
set_option maxHeartbeats 4000000 in
theorem eq_opr (x y : Opr) (w : World) : (binOp .eql 30 (.agg #[.bool x.rd, .int .i64 x.k, .int .i64 x.t, .int .i64 x.n]) (.agg #[.bool y.rd, .int .i64 y.k, .int .i64 y.t, .int .i64 y.n])).run Tryz.prog w = .ok (.bool (Opr.beq x y)) w := by
  have u3 := Tryz.underlying3
  have a3 := Tryz.isAgg3
  have z3 := Tryz.sizeOf3
  have u4 := Tryz.underlying4
  have a4 := Tryz.isAgg4
  have z4 := Tryz.sizeOf4
  have hS : Tryz.prog.underlying 30 = some (.struct (Tryz.prog.fieldsOf 30)) := by kernel_rfl
  have hp : Tryz.prog.stoodInHeld 30 = false := by kernel_rfl
  rw [run_eql_struct, show (10000 : Nat) = 9999 + 1 from rfl, run_equalIn_agg w 9999 30 _ _ hS hp]
  simp only [Program.fieldsOf, Tryz.underlying30]
  go_simp
  obtain ⟨x0, x1, x2, x3⟩ := x
  obtain ⟨y0, y1, y2, y3⟩ := y
  unfold Opr.beq
  by_cases h0 : x0 = y0 <;> by_cases h1 : x1 = y1 <;> by_cases h2 : x2 = y2 <;> by_cases h3 : x3 = y3 <;> simp [h0, h1, h2, h3]
set_option maxHeartbeats 4000000 in
theorem ne_opr (x y : Opr) (w : World) : (binOp .neq 30 (.agg #[.bool x.rd, .int .i64 x.k, .int .i64 x.t, .int .i64 x.n]) (.agg #[.bool y.rd, .int .i64 y.k, .int .i64 y.t, .int .i64 y.n])).run Tryz.prog w = .ok (.bool (!Opr.beq x y)) w := by
  have u3 := Tryz.underlying3
  have a3 := Tryz.isAgg3
  have z3 := Tryz.sizeOf3
  have u4 := Tryz.underlying4
  have a4 := Tryz.isAgg4
  have z4 := Tryz.sizeOf4
  have hS : Tryz.prog.underlying 30 = some (.struct (Tryz.prog.fieldsOf 30)) := by kernel_rfl
  have hp : Tryz.prog.stoodInHeld 30 = false := by kernel_rfl
  rw [run_neq_struct, show (10000 : Nat) = 9999 + 1 from rfl, run_equalIn_agg w 9999 30 _ _ hS hp]
  simp only [Program.fieldsOf, Tryz.underlying30]
  go_simp
  obtain ⟨x0, x1, x2, x3⟩ := x
  obtain ⟨y0, y1, y2, y3⟩ := y
  unfold Opr.beq
  by_cases h0 : x0 = y0 <;> by_cases h1 : x1 = y1 <;> by_cases h2 : x2 = y2 <;> by_cases h3 : x3 = y3 <;> simp [h0, h1, h2, h3]
end Go.Proofs.YtaogofjnpnheeaaGreatDoor.F
