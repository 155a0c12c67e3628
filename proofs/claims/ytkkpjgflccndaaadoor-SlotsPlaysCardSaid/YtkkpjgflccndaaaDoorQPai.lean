/-
  Equality of structs of ints (Pai). Not a statement of the seat.
-/
import Derived.Test.YtkkpjgflccndaaaDoorFPai
namespace Go.Proofs.YtkkpjgflccndaaaDoor.F
open Go.ChangeShapes Go.WideShapes Go.ChangeAt Go.RowKit Base
/-- Are two alike? -/
def Pai.beq (x y : Pai) : Bool := decide (x.k = y.k) && decide (x.v = y.v)
theorem Pai.beq_iff (x y : Pai) : Pai.beq x y = true ↔ x = y := by
  unfold Pai.beq
  constructor
  · intro h
    simp only [Bool.and_eq_true, decide_eq_true_eq] at h
    cases x; cases y
    simp_all
  · intro h
    subst h
    simp
theorem Pai.beq_self (x : Pai) : Pai.beq x x = true := (Pai.beq_iff x x).2 rfl
set_option maxHeartbeats 4000000 in
theorem eq_pai (x y : Pai) (w : World) : (binOp .eql 44 (.agg #[.int .i64 x.k, .int .i64 x.v]) (.agg #[.int .i64 y.k, .int .i64 y.v])).run Tryd.prog w = .ok (.bool (Pai.beq x y)) w := by
  have u3 := Tryd.underlying3
  have a3 := Tryd.isAgg3
  have z3 := Tryd.sizeOf3
  have hS : Tryd.prog.underlying 44 = some (.struct (Tryd.prog.fieldsOf 44)) := by kernel_rfl
  have hp : Tryd.prog.stoodInHeld 44 = false := by kernel_rfl
  rw [run_eql_struct, show (10000 : Nat) = 9999 + 1 from rfl, run_equalIn_agg w 9999 44 _ _ hS hp]
  simp only [Program.fieldsOf, Tryd.underlying44]
  go_simp
  obtain ⟨x0, x1⟩ := x
  obtain ⟨y0, y1⟩ := y
  unfold Pai.beq
  by_cases h0 : x0 = y0 <;> by_cases h1 : x1 = y1 <;> simp [h0, h1]
set_option maxHeartbeats 4000000 in
theorem ne_pai (x y : Pai) (w : World) : (binOp .neq 44 (.agg #[.int .i64 x.k, .int .i64 x.v]) (.agg #[.int .i64 y.k, .int .i64 y.v])).run Tryd.prog w = .ok (.bool (!Pai.beq x y)) w := by
  have u3 := Tryd.underlying3
  have a3 := Tryd.isAgg3
  have z3 := Tryd.sizeOf3
  have hS : Tryd.prog.underlying 44 = some (.struct (Tryd.prog.fieldsOf 44)) := by kernel_rfl
  have hp : Tryd.prog.stoodInHeld 44 = false := by kernel_rfl
  rw [run_neq_struct, show (10000 : Nat) = 9999 + 1 from rfl, run_equalIn_agg w 9999 44 _ _ hS hp]
  simp only [Program.fieldsOf, Tryd.underlying44]
  go_simp
  obtain ⟨x0, x1⟩ := x
  obtain ⟨y0, y1⟩ := y
  unfold Pai.beq
  by_cases h0 : x0 = y0 <;> by_cases h1 : x1 = y1 <;> simp [h0, h1]
end Go.Proofs.YtkkpjgflccndaaaDoor.F
