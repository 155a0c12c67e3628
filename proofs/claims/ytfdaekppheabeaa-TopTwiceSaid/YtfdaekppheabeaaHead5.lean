/-
  Contracts of small functions, several texts laid into one. Not a statement of the seat.
-/
import Derived.Test.YtfdaekppheabeaaHead2
import Derived.Test.YtfdaekppheabeaaFOpr
import Derived.BigQuiet
import Derived.Deep.QuietTactic
import Derived.Test.YtfdaekppheabeaaFHvy
namespace Go.Proofs.Ytfdaekppheabeaa.F
open Go.ChangeShapes Go.WideShapes Go.ChangeAt Go.RowKit Base
/-- Are two alike? -/
def Ver.beq (x y : Ver) : Bool := decide (x.t = y.t) && decide (x.k = y.k) && decide (x.n = y.n)
theorem Ver.beq_iff (x y : Ver) : Ver.beq x y = true ↔ x = y := by
  unfold Ver.beq
  constructor
  · intro h
    simp only [Bool.and_eq_true, decide_eq_true_eq] at h
    cases x; cases y
    simp_all
  · intro h
    subst h
    simp
theorem Ver.beq_self (x : Ver) : Ver.beq x x = true := (Ver.beq_iff x x).2 rfl
set_option maxHeartbeats 4000000 in
theorem eq_ver (x y : Ver) (w : World) : (binOp .eql 81 (.agg #[.int .i64 x.t, .int .i64 x.k, .int .i64 x.n]) (.agg #[.int .i64 y.t, .int .i64 y.k, .int .i64 y.n])).run Try.prog w = .ok (.bool (Ver.beq x y)) w := by
  have u3 := Try.underlying3
  have a3 := Try.isAgg3
  have z3 := Try.sizeOf3
  have hS : Try.prog.underlying 81 = some (.struct (Try.prog.fieldsOf 81)) := by kernel_rfl
  have hp : Try.prog.stoodInHeld 81 = false := by kernel_rfl
  rw [run_eql_struct, show (10000 : Nat) = 9999 + 1 from rfl, run_equalIn_agg w 9999 81 _ _ hS hp]
  simp only [Program.fieldsOf, Try.underlying81]
  go_simp
  obtain ⟨x0, x1, x2⟩ := x
  obtain ⟨y0, y1, y2⟩ := y
  unfold Ver.beq
  by_cases h0 : x0 = y0 <;> by_cases h1 : x1 = y1 <;> by_cases h2 : x2 = y2 <;> simp [h0, h1, h2]
set_option maxHeartbeats 4000000 in
theorem ne_ver (x y : Ver) (w : World) : (binOp .neq 81 (.agg #[.int .i64 x.t, .int .i64 x.k, .int .i64 x.n]) (.agg #[.int .i64 y.t, .int .i64 y.k, .int .i64 y.n])).run Try.prog w = .ok (.bool (!Ver.beq x y)) w := by
  have u3 := Try.underlying3
  have a3 := Try.isAgg3
  have z3 := Try.sizeOf3
  have hS : Try.prog.underlying 81 = some (.struct (Try.prog.fieldsOf 81)) := by kernel_rfl
  have hp : Try.prog.stoodInHeld 81 = false := by kernel_rfl
  rw [run_neq_struct, show (10000 : Nat) = 9999 + 1 from rfl, run_equalIn_agg w 9999 81 _ _ hS hp]
  simp only [Program.fieldsOf, Try.underlying81]
  go_simp
  obtain ⟨x0, x1, x2⟩ := x
  obtain ⟨y0, y1, y2⟩ := y
  unfold Ver.beq
  by_cases h0 : x0 = y0 <;> by_cases h1 : x1 = y1 <;> by_cases h2 : x2 = y2 <;> simp [h0, h1, h2]
end Go.Proofs.Ytfdaekppheabeaa.F
namespace Go.Proofs.Ytfdaekppheabeaa.F
open Go.ChangeShapes Go.WideShapes Go.ChangeAt Go.RowKit Base
/-- Are two alike? -/
def Opr.beq (x y : Opr) : Bool := decide (x.rd = y.rd) && decide (x.k = y.k) && decide (x.t = y.t) && decide (x.n = y.n)
theorem Opr.beq_iff (x y : Opr) : Opr.beq x y = true ↔ x = y := by
  unfold Opr.beq
  constructor
  · intro h
    simp only [Bool.and_eq_true, decide_eq_true_eq] at h
    cases x; cases y
    simp_all
  · intro h
    subst h
    simp
theorem Opr.beq_self (x : Opr) : Opr.beq x x = true := (Opr.beq_iff x x).2 rfl
set_option maxHeartbeats 4000000 in
theorem eq_opr (x y : Opr) (w : World) : (binOp .eql 55 (.agg #[.bool x.rd, .int .i64 x.k, .int .i64 x.t, .int .i64 x.n]) (.agg #[.bool y.rd, .int .i64 y.k, .int .i64 y.t, .int .i64 y.n])).run Try.prog w = .ok (.bool (Opr.beq x y)) w := by
  have u3 := Try.underlying3
  have a3 := Try.isAgg3
  have z3 := Try.sizeOf3
  have u4 := Try.underlying4
  have a4 := Try.isAgg4
  have z4 := Try.sizeOf4
  have hS : Try.prog.underlying 55 = some (.struct (Try.prog.fieldsOf 55)) := by kernel_rfl
  have hp : Try.prog.stoodInHeld 55 = false := by kernel_rfl
  rw [run_eql_struct, show (10000 : Nat) = 9999 + 1 from rfl, run_equalIn_agg w 9999 55 _ _ hS hp]
  simp only [Program.fieldsOf, Try.underlying55]
  go_simp
  obtain ⟨x0, x1, x2, x3⟩ := x
  obtain ⟨y0, y1, y2, y3⟩ := y
  unfold Opr.beq
  by_cases h0 : x0 = y0 <;> by_cases h1 : x1 = y1 <;> by_cases h2 : x2 = y2 <;> by_cases h3 : x3 = y3 <;> simp [h0, h1, h2, h3]
set_option maxHeartbeats 4000000 in
theorem ne_opr (x y : Opr) (w : World) : (binOp .neq 55 (.agg #[.bool x.rd, .int .i64 x.k, .int .i64 x.t, .int .i64 x.n]) (.agg #[.bool y.rd, .int .i64 y.k, .int .i64 y.t, .int .i64 y.n])).run Try.prog w = .ok (.bool (!Opr.beq x y)) w := by
  have u3 := Try.underlying3
  have a3 := Try.isAgg3
  have z3 := Try.sizeOf3
  have u4 := Try.underlying4
  have a4 := Try.isAgg4
  have z4 := Try.sizeOf4
  have hS : Try.prog.underlying 55 = some (.struct (Try.prog.fieldsOf 55)) := by kernel_rfl
  have hp : Try.prog.stoodInHeld 55 = false := by kernel_rfl
  rw [run_neq_struct, show (10000 : Nat) = 9999 + 1 from rfl, run_equalIn_agg w 9999 55 _ _ hS hp]
  simp only [Program.fieldsOf, Try.underlying55]
  go_simp
  obtain ⟨x0, x1, x2, x3⟩ := x
  obtain ⟨y0, y1, y2, y3⟩ := y
  unfold Opr.beq
  by_cases h0 : x0 = y0 <;> by_cases h1 : x1 = y1 <;> by_cases h2 : x2 = y2 <;> by_cases h3 : x3 = y3 <;> simp [h0, h1, h2, h3]
end Go.Proofs.Ytfdaekppheabeaa.F
namespace Go.Proofs.Ytfdaekppheabeaa.Op
open Go.ChangeShapes Go.WideShapes Go.ChangeAt Go.RowKit Base F Go.Lib
/-- Are two lists one? -/
def sameO : List Opr → List Opr → Bool
  | [], [] => true
  | x :: xs, y :: ys => Opr.beq x y && sameO xs ys
  | _, _ => false
theorem sameO_iff : ∀ (xs ys : List Opr), sameO xs ys = true ↔ xs = ys
  | [], [] => by simp [sameO]
  | [], y :: ys => by simp [sameO]
  | x :: xs, [] => by simp [sameO]
  | x :: xs, y :: ys => by
    simp only [sameO, Bool.and_eq_true, Opr.beq_iff, sameO_iff xs ys, List.cons.injEq]
theorem sameO_len {xs ys : List Opr} (h : xs.length ≠ ys.length) : sameO xs ys = false := by
  rw [Bool.eq_false_iff]
  intro e
  exact h (by rw [(sameO_iff xs ys).1 e])
theorem sameO_at {xs ys : List Opr} {k : Nat} (h : Opr.beq (xs.getD k Opr.zero) (ys.getD k Opr.zero) = false) : sameO xs ys = false := by
  rw [Bool.eq_false_iff]
  intro e
  rw [(sameO_iff xs ys).1 e, Opr.beq_self] at h
  cases h
theorem sameO_all {xs ys : List Opr} (hl : xs.length = ys.length) (h : ∀ k, k < xs.length → Opr.beq (xs.getD k Opr.zero) (ys.getD k Opr.zero) = true) : sameO xs ys = true := by
  rw [sameO_iff]
  apply List.ext_getElem hl
  intro k h1 h2
  have := (Opr.beq_iff _ _).1 (h k h1)
  rw [List.getD_eq_getElem?_getD, List.getD_eq_getElem?_getD, List.getElem?_eq_getElem h1, List.getElem?_eq_getElem h2] at this
  exact this
end Go.Proofs.Ytfdaekppheabeaa.Op
namespace Go.Proofs.Ytfdaekppheabeaa.F
open Go.ChangeShapes Go.WideShapes Go.ChangeAt Go.RowKit Base
/-- A value of the struct. -/
structure Bad where
  tx : Int
  pl : Int
  t : Int
  k : Int
  n : Int
def Bad.zero : Bad := ⟨0, 0, 0, 0, 0⟩
/-- Its cells. -/
def Bad.vals (x : Bad) : List Value := [.int .i64 x.tx, .int .i64 x.pl, .int .i64 x.t, .int .i64 x.k, .int .i64 x.n]
/-- Its fields are ints of 64 bits. -/
def Bad.ok (x : Bad) : Prop := (-9223372036854775808 ≤ x.tx ∧ x.tx ≤ 9223372036854775807) ∧ (-9223372036854775808 ≤ x.pl ∧ x.pl ≤ 9223372036854775807) ∧ (-9223372036854775808 ≤ x.t ∧ x.t ≤ 9223372036854775807) ∧ (-9223372036854775808 ≤ x.k ∧ x.k ≤ 9223372036854775807) ∧ (-9223372036854775808 ≤ x.n ∧ x.n ≤ 9223372036854775807)
/-- The slice v, whose elements lie from block base on, holds xs. -/
def Bads (base : Nat) (w : World) (v : Value) (xs : List Bad) : Prop :=
  ((∃ p c, v = .slice p 0 c ∧ (p = none → c = 0)) ∧ xs = []) ∨ ∃ g o c, v = .slice (some ⟨g, o, none⟩) xs.length c ∧ base ≤ g ∧ g < w.heap.size ∧ xs.length ≤ 9223372036854775807 ∧ ∀ k, k < xs.length →
    w.cell? ⟨g, o + k * 5, none⟩ = some (.int .i64 (xs.getD k Bad.zero).tx) ∧ w.cell? ⟨g, o + k * 5 + 1, none⟩ = some (.int .i64 (xs.getD k Bad.zero).pl) ∧ w.cell? ⟨g, o + k * 5 + 2, none⟩ = some (.int .i64 (xs.getD k Bad.zero).t) ∧ w.cell? ⟨g, o + k * 5 + 3, none⟩ = some (.int .i64 (xs.getD k Bad.zero).k) ∧ w.cell? ⟨g, o + k * 5 + 4, none⟩ = some (.int .i64 (xs.getD k Bad.zero).n)
theorem Bads.kept {base base' : Nat} {w w1 : World} {v : Value} {xs : List Bad} (h : Bads base w v xs) (hb : ∀ g, base ≤ g → g < w.heap.size → w1.heap[g]? = w.heap[g]? ∧ base' ≤ g) (hs : w.heap.size ≤ w1.heap.size) : Bads base' w1 v xs := by
  rcases h with h | ⟨g, o, c, hv, h0, h1, h2, h3⟩
  · exact .inl h
  · refine .inr ⟨g, o, c, hv, (hb g h0 h1).2, Nat.lt_of_lt_of_le h1 hs, h2, fun k hk => ?_⟩
    have key : ∀ j, w1.cell? ⟨g, j, none⟩ = w.cell? ⟨g, j, none⟩ := fun j => World.cell?_of_block (a := ⟨g, j, none⟩) (hb g h0 h1).1
    simp only [key]
    exact h3 k hk
theorem Bads.below {base : Nat} {w w1 : World} {v : Value} {xs : List Bad} (h : Bads base w v xs) (hb : Below w.heap.size w w1) : Bads base w1 v xs :=
  h.kept (fun g h0 h1 => ⟨hb.block g h1, h0⟩) hb.size
theorem Bads.grown {base : Nat} {w w1 : World} {v : Value} {xs : List Bad} {x : Option Nat} (h : Bads base w v xs) (hg : w.grownBy w1 x) (hx : ∀ b, x = some b → b < base) : Bads base w1 v xs :=
  h.kept (fun g h0 h1 => ⟨hg.block g h1 (fun e => by have := hx g e.symm; omega), h0⟩) hg.size
theorem Bads.mono {base base' : Nat} {w : World} {v : Value} {xs : List Bad} (h : Bads base w v xs) (hb : base' ≤ base) : Bads base' w v xs :=
  h.kept (fun _ h0 _ => ⟨rfl, Nat.le_trans hb h0⟩) (Nat.le_refl _)
theorem Bads.open_ {base : Nat} {w : World} {v : Value} {xs : List Bad} (h : Bads base w v xs) : ∃ p c, v = .slice p xs.length c ∧ xs.length ≤ 9223372036854775807 ∧ ∀ k, k < xs.length → ∃ g o, p = some ⟨g, o, none⟩ ∧ base ≤ g ∧ g < w.heap.size ∧
    w.cell? ⟨g, o + k * 5, none⟩ = some (.int .i64 (xs.getD k Bad.zero).tx) ∧ w.cell? ⟨g, o + k * 5 + 1, none⟩ = some (.int .i64 (xs.getD k Bad.zero).pl) ∧ w.cell? ⟨g, o + k * 5 + 2, none⟩ = some (.int .i64 (xs.getD k Bad.zero).t) ∧ w.cell? ⟨g, o + k * 5 + 3, none⟩ = some (.int .i64 (xs.getD k Bad.zero).k) ∧ w.cell? ⟨g, o + k * 5 + 4, none⟩ = some (.int .i64 (xs.getD k Bad.zero).n) := by
  rcases h with ⟨⟨p, c, hv⟩, rfl⟩ | ⟨g, o, c, hv, h0, h1, h2, h3⟩
  · exact ⟨p, c, hv.1, by simp, fun k hk => absurd hk (by simp)⟩
  · exact ⟨_, c, hv, h2, fun k hk => ⟨g, o, rfl, h0, h1, h3 k hk⟩⟩
theorem Bads.nil {base : Nat} {w : World} : Bads base w (.slice none 0 0) [] := .inl ⟨⟨_, _, rfl, fun _ => rfl⟩, rfl⟩
theorem bad_flat_len (zs : List Bad) : (zs.flatMap Bad.vals).length = zs.length * 5 := by
  induction zs with
  | nil => rfl
  | cons x zs ih => rw [List.flatMap_cons, List.length_append, ih]; simp [Bad.vals]; omega
theorem bad_flat_get : ∀ (zs : List Bad) (k j : Nat), k < zs.length → j < 5 → (zs.flatMap Bad.vals)[k * 5 + j]? = (Bad.vals (zs.getD k Bad.zero))[j]?
  | x :: zs, 0, j, _, hj => by
    rw [List.flatMap_cons, List.getElem?_append_left (by simp [Bad.vals]; omega)]
    simp
  | x :: zs, k + 1, j, hk, hj => by
    rw [List.flatMap_cons, List.getElem?_append_right (by simp [Bad.vals]; omega), show (k + 1) * 5 + j - (Bad.vals x).length = k * 5 + j by simp [Bad.vals]; omega, bad_flat_get zs k j (by simpa using hk) hj]
    rfl
theorem bad_flat_take (zs : List Bad) (m : Nat) : (zs.flatMap Bad.vals).take (m * 5) = (zs.take m).flatMap Bad.vals := by
  induction zs generalizing m with
  | nil => simp
  | cons x zs ih =>
    cases m with
    | zero => simp
    | succ m =>
      rw [List.flatMap_cons, List.take_succ_cons, List.flatMap_cons, ← ih m, List.take_append, List.take_of_length_le (by simp [Bad.vals]; omega)]
      congr 2
      simp [Bad.vals]; omega
theorem bad_vals_one (zs : List Bad) : ∀ u ∈ zs.flatMap Bad.vals, u.oneCell' = true := by
  intro u hu
  obtain ⟨x, _, hx⟩ := List.mem_flatMap.1 hu
  simp only [Bad.vals, List.mem_cons, List.not_mem_nil, or_false] at hx
  rcases hx with rfl | rfl | rfl | rfl | rfl <;> rfl
section
variable {H : Type} {enc : TypeId × Value → H} {w : World}
end
end Go.Proofs.Ytfdaekppheabeaa.F
namespace Go.Proofs.Ytfdaekppheabeaa.F
open Go.ChangeShapes Go.WideShapes Go.ChangeAt Go.RowKit Base
/-- Are two alike? -/
def Bad.beq (x y : Bad) : Bool := decide (x.tx = y.tx) && decide (x.pl = y.pl) && decide (x.t = y.t) && decide (x.k = y.k) && decide (x.n = y.n)
theorem Bad.beq_iff (x y : Bad) : Bad.beq x y = true ↔ x = y := by
  unfold Bad.beq
  constructor
  · intro h
    simp only [Bool.and_eq_true, decide_eq_true_eq] at h
    cases x; cases y
    simp_all
  · intro h
    subst h
    simp
theorem Bad.beq_self (x : Bad) : Bad.beq x x = true := (Bad.beq_iff x x).2 rfl
end Go.Proofs.Ytfdaekppheabeaa.F
namespace Go.Proofs.Ytfdaekppheabeaa.F
open Go.ChangeShapes Go.WideShapes Go.ChangeAt Go.RowKit Base
/-- A value of the struct. -/
structure Txc where
  i : Int
  d : Bool
  s : Option Addr × Nat × Nat
def Txc.zero : Txc := ⟨0, false, (none, 0, 0)⟩
/-- Its cells. -/
def Txc.vals (x : Txc) : List Value := [.int .i64 x.i, .bool x.d, .slice x.s.1 x.s.2.1 x.s.2.2]
/-- The slice v, whose elements lie from block base on, holds xs. -/
def Txcs (base : Nat) (w : World) (v : Value) (xs : List Txc) : Prop :=
  ((∃ p c, v = .slice p 0 c ∧ (p = none → c = 0)) ∧ xs = []) ∨ ∃ g o c, v = .slice (some ⟨g, o, none⟩) xs.length c ∧ base ≤ g ∧ g < w.heap.size ∧ xs.length ≤ 9223372036854775807 ∧ ∀ k, k < xs.length →
    w.cell? ⟨g, o + k * 3, none⟩ = some (.int .i64 (xs.getD k Txc.zero).i) ∧ w.cell? ⟨g, o + k * 3 + 1, none⟩ = some (.bool (xs.getD k Txc.zero).d) ∧ w.cell? ⟨g, o + k * 3 + 2, none⟩ = some (.slice (xs.getD k Txc.zero).s.1 (xs.getD k Txc.zero).s.2.1 (xs.getD k Txc.zero).s.2.2)
theorem Txcs.kept {base base' : Nat} {w w1 : World} {v : Value} {xs : List Txc} (h : Txcs base w v xs) (hb : ∀ g, base ≤ g → g < w.heap.size → w1.heap[g]? = w.heap[g]? ∧ base' ≤ g) (hs : w.heap.size ≤ w1.heap.size) : Txcs base' w1 v xs := by
  rcases h with h | ⟨g, o, c, hv, h0, h1, h2, h3⟩
  · exact .inl h
  · refine .inr ⟨g, o, c, hv, (hb g h0 h1).2, Nat.lt_of_lt_of_le h1 hs, h2, fun k hk => ?_⟩
    have key : ∀ j, w1.cell? ⟨g, j, none⟩ = w.cell? ⟨g, j, none⟩ := fun j => World.cell?_of_block (a := ⟨g, j, none⟩) (hb g h0 h1).1
    simp only [key]
    exact h3 k hk
theorem Txcs.below {base : Nat} {w w1 : World} {v : Value} {xs : List Txc} (h : Txcs base w v xs) (hb : Below w.heap.size w w1) : Txcs base w1 v xs :=
  h.kept (fun g h0 h1 => ⟨hb.block g h1, h0⟩) hb.size
theorem Txcs.grown {base : Nat} {w w1 : World} {v : Value} {xs : List Txc} {x : Option Nat} (h : Txcs base w v xs) (hg : w.grownBy w1 x) (hx : ∀ b, x = some b → b < base) : Txcs base w1 v xs :=
  h.kept (fun g h0 h1 => ⟨hg.block g h1 (fun e => by have := hx g e.symm; omega), h0⟩) hg.size
theorem Txcs.mono {base base' : Nat} {w : World} {v : Value} {xs : List Txc} (h : Txcs base w v xs) (hb : base' ≤ base) : Txcs base' w v xs :=
  h.kept (fun _ h0 _ => ⟨rfl, Nat.le_trans hb h0⟩) (Nat.le_refl _)
theorem Txcs.open_ {base : Nat} {w : World} {v : Value} {xs : List Txc} (h : Txcs base w v xs) : ∃ p c, v = .slice p xs.length c ∧ xs.length ≤ 9223372036854775807 ∧ ∀ k, k < xs.length → ∃ g o, p = some ⟨g, o, none⟩ ∧ base ≤ g ∧ g < w.heap.size ∧
    w.cell? ⟨g, o + k * 3, none⟩ = some (.int .i64 (xs.getD k Txc.zero).i) ∧ w.cell? ⟨g, o + k * 3 + 1, none⟩ = some (.bool (xs.getD k Txc.zero).d) ∧ w.cell? ⟨g, o + k * 3 + 2, none⟩ = some (.slice (xs.getD k Txc.zero).s.1 (xs.getD k Txc.zero).s.2.1 (xs.getD k Txc.zero).s.2.2) := by
  rcases h with ⟨⟨p, c, hv⟩, rfl⟩ | ⟨g, o, c, hv, h0, h1, h2, h3⟩
  · exact ⟨p, c, hv.1, by simp, fun k hk => absurd hk (by simp)⟩
  · exact ⟨_, c, hv, h2, fun k hk => ⟨g, o, rfl, h0, h1, h3 k hk⟩⟩
theorem Txcs.nil {base : Nat} {w : World} : Txcs base w (.slice none 0 0) [] := .inl ⟨⟨_, _, rfl, fun _ => rfl⟩, rfl⟩
theorem txc_flat_len (zs : List Txc) : (zs.flatMap Txc.vals).length = zs.length * 3 := by
  induction zs with
  | nil => rfl
  | cons x zs ih => rw [List.flatMap_cons, List.length_append, ih]; simp [Txc.vals]; omega
theorem txc_flat_get : ∀ (zs : List Txc) (k j : Nat), k < zs.length → j < 3 → (zs.flatMap Txc.vals)[k * 3 + j]? = (Txc.vals (zs.getD k Txc.zero))[j]?
  | x :: zs, 0, j, _, hj => by
    rw [List.flatMap_cons, List.getElem?_append_left (by simp [Txc.vals]; omega)]
    simp
  | x :: zs, k + 1, j, hk, hj => by
    rw [List.flatMap_cons, List.getElem?_append_right (by simp [Txc.vals]; omega), show (k + 1) * 3 + j - (Txc.vals x).length = k * 3 + j by simp [Txc.vals]; omega, txc_flat_get zs k j (by simpa using hk) hj]
    rfl
theorem txc_flat_take (zs : List Txc) (m : Nat) : (zs.flatMap Txc.vals).take (m * 3) = (zs.take m).flatMap Txc.vals := by
  induction zs generalizing m with
  | nil => simp
  | cons x zs ih =>
    cases m with
    | zero => simp
    | succ m =>
      rw [List.flatMap_cons, List.take_succ_cons, List.flatMap_cons, ← ih m, List.take_append, List.take_of_length_le (by simp [Txc.vals]; omega)]
      congr 2
      simp [Txc.vals]; omega
theorem txc_vals_one (zs : List Txc) : ∀ u ∈ zs.flatMap Txc.vals, u.oneCell' = true := by
  intro u hu
  obtain ⟨x, _, hx⟩ := List.mem_flatMap.1 hu
  simp only [Txc.vals, List.mem_cons, List.not_mem_nil, or_false] at hx
  rcases hx with rfl | rfl | rfl <;> rfl
/-- The slice v, which the call made itself from block B on, holds zs. -/
def OwnTxc (B : Nat) (w : World) (v : Value) (zs : List Txc) : Prop := w.ownsRow B 41 3 v zs.length (zs.flatMap Txc.vals)
theorem OwnTxc.nil (B : Nat) (w : World) : OwnTxc B w (.slice none 0 0) [] := World.ownsRow_nil _ _ _ _
theorem OwnTxc.list {B : Nat} {w : World} {v : Value} {zs : List Txc} (h : OwnTxc B w v zs) (hl : zs.length ≤ 9223372036854775807) : Txcs B w v zs := by
  have h' := h
  rcases h.2 with ⟨hv, h0⟩ | ⟨g, cap, cur, hv, hB, h2, _⟩
  · exact .inl ⟨⟨_, _, hv, fun _ => rfl⟩, List.length_eq_zero_iff.1 h0⟩
  · subst hv
    have hc : ∀ k j, k < zs.length → j < 3 → w.cell? ⟨g, 0 + k * 3 + j, none⟩ = (Txc.vals (zs.getD k Txc.zero))[j]? := fun k j hk hj => by
      rw [Nat.zero_add, ← txc_flat_get zs k j hk hj]
      exact World.ownsRow.cellAt h' (k * 3 + j) (by omega)
    exact .inr ⟨g, 0, cap, rfl, hB, heap_lt h2, hl, fun k hk => ⟨hc k 0 hk (by omega), hc k 1 hk (by omega), hc k 2 hk (by omega)⟩⟩
theorem OwnTxc.kept {B : Nat} {w w1 : World} {v : Value} {zs : List Txc} (h : OwnTxc B w v zs) {row : Option Nat} (hg : w.grownBy w1 row) (hne : v.ownBlock = none ∨ v.ownBlock ≠ row) : OwnTxc B w1 v zs := World.ownsRow.kept h hg hne
theorem OwnTxc.below {B : Nat} {w w1 : World} {v : Value} {zs : List Txc} (h : OwnTxc B w v zs) (hb : Below w.heap.size w w1) : OwnTxc B w1 v zs :=
  World.ownsRow.kept h (row := none) ⟨hb.os, hb.tape, hb.output, hb.size, fun k hk _ => hb.block k hk⟩ (by cases v.ownBlock <;> simp)
theorem OwnTxc.base {B : Nat} {w : World} {v : Value} {zs : List Txc} (h : OwnTxc B w v zs) : ∀ k, v.ownBlock = some k → B ≤ k ∧ k < w.heap.size := World.ownsRow.lt h
/-- The first m of it, in the same place. -/
theorem OwnTxc.cut {B : Nat} {w : World} {p : Option Addr} {n c : Nat} {zs : List Txc} (h : OwnTxc B w (.slice p n c) zs) {m : Nat} (hm : m ≤ zs.length) : OwnTxc B w (.slice p m c) (zs.take m) := by
  obtain ⟨hl, h⟩ := h
  have hlen : (zs.take m).length = m := by rw [List.length_take]; omega
  refine ⟨by rw [txc_flat_len], ?_⟩
  rw [hlen]
  rcases h with ⟨hv, h0⟩ | ⟨g, cap, cur, hv, h1, h2, h3, h4, h5, h6⟩
  · injection hv with e1 e2 e3
    subst e1 e3
    obtain rfl : m = 0 := by omega
    exact .inl ⟨rfl, rfl⟩
  · injection hv with e1 e2 e3
    subst e1 e3
    refine .inr ⟨g, c, cur, rfl, h1, h2, by omega, h4, h5, ?_⟩
    rw [← txc_flat_take, ← h6, List.take_take]
    congr 1
    have := Nat.mul_le_mul_right 3 hm
    omega
theorem txc_info : (Try.prog.info? 41).map (fun i => (i.zero, i.size, i.bytes)) = some (some (.agg #[.int .i64 0, .bool false, .slice none 0 0]), 3, 40) := by kernel_rfl
theorem run_append_txcs {B base : Nat} {w : World} {v u : Value} {zs ys : List Txc} (ty : TypeId)
    (hB : B ≤ w.heap.size) (hown : OwnTxc B w v zs) (hys : Txcs base w u ys) (hl : zs.length + ys.length ≤ 1000000) :
    ∃ v' w', (Builtin.append_ #[22, 22] ty #[v, u]).run Try.prog w = .ok v' w' ∧ OwnTxc B w' v' (zs ++ ys) ∧ w.grownBy w' v.ownBlock ∧ (v'.ownBlock = v.ownBlock ∨ v'.ownBlock = some w.heap.size) := by
  obtain ⟨i0, hi, hz0, hz1, hz2⟩ := info_parts txc_info
  rcases hys with ⟨⟨p, c, rfl, hpc⟩, rfl⟩ | ⟨g, o', c, rfl, _, _, _, hc⟩
  · cases p with
    | none =>
      obtain rfl := hpc rfl
      exact ⟨v, w, run_append_owned_none (P := Try.prog) (w := w) B 22 ty 41 i0 3 Try.underlying22 hi v zs.length (zs.flatMap Txc.vals) hown, by rw [List.append_nil]; exact hown, World.grownBy.refl _ _, .inl rfl⟩
    | some ad =>
      obtain ⟨v', w', hr, h2, h3, _, h5⟩ := run_append_own_at (P := Try.prog) w B 22 ty 41 i0 (.agg #[.int .i64 0, .bool false, .slice none 0 0]) 3 40 Try.underlying22 hi hz0 hz1 hz2 rfl (by decide) v zs.length (zs.flatMap Txc.vals) hown ad 0 c [] (by simp) (by simp) (by simp) (by simp only [maxLen]; omega) (by omega) hB
      refine ⟨v', w', hr, ?_, h3, h5⟩
      rw [List.append_nil]
      unfold OwnTxc
      simpa using h2
  · obtain ⟨v', w', hr, h2, h3, _, h5⟩ := run_append_own_at (P := Try.prog) w B 22 ty 41 i0 (.agg #[.int .i64 0, .bool false, .slice none 0 0]) 3 40 Try.underlying22 hi hz0 hz1 hz2 rfl (by decide) v zs.length (zs.flatMap Txc.vals) hown ⟨g, o', none⟩ ys.length c (ys.flatMap Txc.vals) (txc_flat_len ys) (by
      intro t y hy
      have ht : t < ys.length * 3 := by rw [← txc_flat_len ys]; exact (List.getElem?_eq_some_iff.1 hy).1
      have hk : t / 3 < ys.length := by omega
      have hr : t % 3 < 3 := Nat.mod_lt _ (by decide)
      have e : t = t / 3 * 3 + t % 3 := by omega
      have hcc := hc (t / 3) hk
      rw [e, txc_flat_get ys _ _ hk hr] at hy
      rw [add_plain, e]
      generalize t / 3 = k at hcc hy
      generalize t % 3 = j at hr hy
      obtain ⟨c0, c1, c2⟩ := hcc
      match j, hr, hy with
      | 0, _, hy => simp [Txc.vals] at hy; subst hy; simpa [Nat.add_assoc] using c0
      | 1, _, hy => simp [Txc.vals] at hy; subst hy; simpa [Nat.add_assoc] using c1
      | 2, _, hy => simp [Txc.vals] at hy; subst hy; simpa [Nat.add_assoc] using c2) (txc_vals_one ys) (by simp only [maxLen]; omega) (by omega) hB
    refine ⟨v', w', hr, ?_, h3, h5⟩
    unfold OwnTxc
    rw [List.length_append, List.flatMap_append]
    exact h2
/-- Some are put behind a slice of the call's own. -/
theorem append_txcs {ops : Array Oper} {rest : List Oper} {o : Oper} {a : Act} {Q : Exit → Act → World → Prop} (hgd : o.guard = none) (s x : Operand)
    (ho : o.op = .call { callee := .builtin .append, args := #[s, x], argTypes := #[22, 22] }) {B base : Nat} {w : World} {v u : Value} {zs ys : List Txc}
    (hB : B ≤ w.heap.size) (hown : OwnTxc B w v zs) (hs : a.eval s = v) (hys : Txcs base w u ys) (hx : a.eval x = u) (hl : zs.length + ys.length ≤ 1000000)
    (h : ∀ v' w', OwnTxc B w' v' (zs ++ ys) → w.grownBy w' v.ownBlock → (v'.ownBlock = v.ownBlock ∨ v'.ownBlock = some w.heap.size) → wpList Try.prog ops Q rest (a.put o.dst v') w') :
    wpList Try.prog ops Q (o :: rest) a w := by
  refine wpList_plain hgd fun K hK => ?_
  obtain ⟨v', w', hr, h2, h3, h5⟩ := run_append_txcs o.type hB hown hys hl
  unfold Oper.wp execOp
  simp only [ho, resolve, invoke, builtin, Sem.run_bind, Sem.run_pure, Result.andThen_ok, List.map_toArray, List.map_cons, List.map_nil, hs, hx, hr]
  exact hK _ _ (h v' w' h2 h3 h5)
/-- The same, as one step of a region that draws its order. -/
theorem step_append_txcs {ops : Array Oper} {o : Oper} {a : Act} {w : World} {K : Act → World → Prop} {Q : Exit → Act → World → Prop} {E : Prop} (hgd : o.guard = none) (s x : Operand)
    (ho : o.op = .call { callee := .builtin .append, args := #[s, x], argTypes := #[22, 22] }) {B base : Nat} {v u : Value} {zs ys : List Txc}
    (hB : B ≤ w.heap.size) (hown : OwnTxc B w v zs) (hs : a.eval s = v) (hys : Txcs base w u ys) (hx : a.eval x = u) (hl : zs.length + ys.length ≤ 1000000)
    (hK : ∀ v' w', OwnTxc B w' v' (zs ++ ys) → w.grownBy w' v.ownBlock → (v'.ownBlock = v.ownBlock ∨ v'.ownBlock = some w.heap.size) → K (a.put o.dst v') w') :
    if Region.wanted o (yielded ops a.tmps) = true then Oper.wp Try.prog o a w K Q else E := by
  rw [if_pos (by simp [Region.wanted, hgd])]
  obtain ⟨v', w', hr, h2, h3, h5⟩ := run_append_txcs o.type hB hown hys hl
  unfold Oper.wp
  simp [execOp, ho, resolve, invoke, builtin, hs, hx, hr, Result.andThen]
  exact hK v' w' h2 h3 h5
theorem OwnTxc.lay {B : Nat} {w X : World} {v : Value} {zs : List Txc} (h : OwnTxc B w v zs) (hx : X.heap = w.heap) (o : Obj) : OwnTxc B (X.alloc o) v zs := by
  have h1 : OwnTxc B X v zs := by
    unfold OwnTxc World.ownsRow at *
    rw [hx]
    exact h
  exact World.ownsRow.alloc h1 o
theorem ownTxc_empty {B : Nat} {W : World} {g : Nat} (hB : B ≤ g) (h : W.heap[g]? = some (.cells #[] 41)) : OwnTxc B W (.slice (some ⟨g, 0, none⟩) 0 0) [] :=
  ⟨rfl, .inr ⟨g, 0, #[], rfl, hB, h, Nat.le_refl _, by simp [maxLen], rfl, rfl⟩⟩
/-- One that is typed out. -/
theorem txc_at {X : World} {g : Nat} (c : Txc) (h : X.heap[g]? = some (.cells #[.int .i64 c.i, .bool c.d, .slice c.s.1 c.s.2.1 c.s.2.2] 41)) : Txcs 0 X (.slice (some ⟨g, 0, none⟩) 1 1) [c] := by
  refine .inr ⟨g, 0, 1, rfl, Nat.zero_le _, heap_lt h, by simp, fun k hk => ?_⟩
  have : k = 0 := by simpa using hk
  subst this
  simp only [World.cell?, h]
  simp
theorem txc_lit (c : Txc) (X : World) : Txcs 0 (X.alloc (.cells #[.int .i64 c.i, .bool c.d, .slice c.s.1 c.s.2.1 c.s.2.2] 41)) (.slice (some ⟨X.heap.size, 0, none⟩) 1 1) [c] := txc_at c (heap_alloc_at _ _ _ rfl)

end Go.Proofs.Ytfdaekppheabeaa.F
namespace Go.Proofs.Ytfdaekppheabeaa.Off
open Go.ChangeShapes Go.WideShapes Go.ChangeAt Go.RowKit Base F
theorem own_lit (zs : List Opr) {W : World} {g : Nat} {vs : Array Value} (hv : vs = (zs.flatMap Opr.vals).toArray) (h : W.heap[g]? = some (.cells vs 55)) (hl : zs.length ≤ 65536) (m : Nat) (hm : m = zs.length) : Oprs 0 W (.slice (some ⟨g, 0, none⟩) m m) zs := by
  subst hm hv
  have : OwnOpr 0 W (.slice (some ⟨g, 0, none⟩) zs.length zs.length) zs := ⟨by rw [opr_flat_len], .inr ⟨g, zs.length, (zs.flatMap Opr.vals).toArray, rfl, Nat.zero_le _, h, Nat.le_refl _, by simp only [maxLen]; omega, by rw [List.size_toArray, opr_flat_len], by rw [List.toList_toArray, ← opr_flat_len, List.take_length]⟩⟩
  exact this.list (by omega)
theorem joinG {α β γ : Type} {P : Prop} (J : α → β → γ → Prop) (G : α → β → γ → Prop) (h1 : (∀ x y u, J x y u → G x y u) → P) (h2 : ∀ x y u, J x y u → G x y u) : P := h1 h2
end Go.Proofs.Ytfdaekppheabeaa.Off
namespace Go.Proofs.Ytfdaekppheabeaa.F
open Go.ChangeShapes Go.WideShapes Go.ChangeAt Go.RowKit Base
/-- Are two alike? -/
def Hvy.beq (x y : Hvy) : Bool := decide (x.f = y.f) && decide (x.t = y.t) && decide (x.kd = y.kd) && decide (x.k = y.k) && decide (x.n = y.n)
theorem Hvy.beq_iff (x y : Hvy) : Hvy.beq x y = true ↔ x = y := by
  unfold Hvy.beq
  constructor
  · intro h
    simp only [Bool.and_eq_true, decide_eq_true_eq] at h
    cases x; cases y
    simp_all
  · intro h
    subst h
    simp
theorem Hvy.beq_self (x : Hvy) : Hvy.beq x x = true := (Hvy.beq_iff x x).2 rfl
set_option maxHeartbeats 4000000 in
theorem eq_hvy (x y : Hvy) (w : World) : (binOp .eql 34 (.agg #[.int .i64 x.f, .int .i64 x.t, .int .i64 x.kd, .int .i64 x.k, .int .i64 x.n]) (.agg #[.int .i64 y.f, .int .i64 y.t, .int .i64 y.kd, .int .i64 y.k, .int .i64 y.n])).run Try.prog w = .ok (.bool (Hvy.beq x y)) w := by
  have u3 := Try.underlying3
  have a3 := Try.isAgg3
  have z3 := Try.sizeOf3
  have hS : Try.prog.underlying 34 = some (.struct (Try.prog.fieldsOf 34)) := by kernel_rfl
  have hp : Try.prog.stoodInHeld 34 = false := by kernel_rfl
  rw [run_eql_struct, show (10000 : Nat) = 9999 + 1 from rfl, run_equalIn_agg w 9999 34 _ _ hS hp]
  simp only [Program.fieldsOf, Try.underlying34]
  go_simp
  obtain ⟨x0, x1, x2, x3, x4⟩ := x
  obtain ⟨y0, y1, y2, y3, y4⟩ := y
  unfold Hvy.beq
  by_cases h0 : x0 = y0 <;> by_cases h1 : x1 = y1 <;> by_cases h2 : x2 = y2 <;> by_cases h3 : x3 = y3 <;> by_cases h4 : x4 = y4 <;> simp [h0, h1, h2, h3, h4]
set_option maxHeartbeats 4000000 in
theorem ne_hvy (x y : Hvy) (w : World) : (binOp .neq 34 (.agg #[.int .i64 x.f, .int .i64 x.t, .int .i64 x.kd, .int .i64 x.k, .int .i64 x.n]) (.agg #[.int .i64 y.f, .int .i64 y.t, .int .i64 y.kd, .int .i64 y.k, .int .i64 y.n])).run Try.prog w = .ok (.bool (!Hvy.beq x y)) w := by
  have u3 := Try.underlying3
  have a3 := Try.isAgg3
  have z3 := Try.sizeOf3
  have hS : Try.prog.underlying 34 = some (.struct (Try.prog.fieldsOf 34)) := by kernel_rfl
  have hp : Try.prog.stoodInHeld 34 = false := by kernel_rfl
  rw [run_neq_struct, show (10000 : Nat) = 9999 + 1 from rfl, run_equalIn_agg w 9999 34 _ _ hS hp]
  simp only [Program.fieldsOf, Try.underlying34]
  go_simp
  obtain ⟨x0, x1, x2, x3, x4⟩ := x
  obtain ⟨y0, y1, y2, y3, y4⟩ := y
  unfold Hvy.beq
  by_cases h0 : x0 = y0 <;> by_cases h1 : x1 = y1 <;> by_cases h2 : x2 = y2 <;> by_cases h3 : x3 = y3 <;> by_cases h4 : x4 = y4 <;> simp [h0, h1, h2, h3, h4]
end Go.Proofs.Ytfdaekppheabeaa.F
