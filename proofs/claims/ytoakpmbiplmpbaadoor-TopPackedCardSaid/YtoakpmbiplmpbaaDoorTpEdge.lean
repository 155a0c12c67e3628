/-
  Contracts of the package pack for edges: which edges are right, their numbers, the edges of numbers. Not a statement of the seat.
-/
import Derived.Test.YtoakpmbiplmpbaaDoorRows
import Derived.WalkKit
import Derived.ProofKit
import Derived.OpenShut
import Derived.Handy
import Derived.WalkLawsBesides
import Derived.WalkSpells
import Derived.BigQuiet
import Derived.Deep.QuietTactic
import Derived.Laws.BitsAllLaws
import Derived.Lib.Hide
import Derived.Test.YtoakpmbiplmpbaaDoorBase
namespace Go.Proofs.YtoakpmbiplmpbaaDoor.Pk
open Go.ChangeShapes Go.WideShapes Go.ChangeAt Go.RowKit

open Base
def eR (f t k y : Int) : Bool := decide (1 ≤ f ∧ f ≤ 1048575 ∧ 1 ≤ t ∧ t ≤ 1048575 ∧ 1 ≤ k ∧ k ≤ 3 ∧ 1 ≤ y ∧ y ≤ 1048575)
theorem eR_iff {f t k y : Int} : eR f t k y = true ↔ (1 ≤ f ∧ f ≤ 1048575 ∧ 1 ≤ t ∧ t ≤ 1048575 ∧ 1 ≤ k ∧ k ≤ 3 ∧ 1 ≤ y ∧ y ≤ 1048575) := by simp [eR]
theorem eR_false {f t k y : Int} (h : ¬ (1 ≤ f ∧ f ≤ 1048575 ∧ 1 ≤ t ∧ t ≤ 1048575 ∧ 1 ≤ k ∧ k ≤ 3 ∧ 1 ≤ y ∧ y ≤ 1048575)) : eR f t k y = false := by simp only [eR, decide_eq_false_iff_not]; exact h
def eNum (f t k y : Int) : Int := ((f * 4 + k) * 1048576 + y) * 1048576 + t
set_option maxHeartbeats 1000000 in
theorem edgeRight_any (f t k y : Int) (w : World) : Calls Tryd.prog 70 #[.agg #[.int .i64 f, .int .i64 t, .int .i64 k, .int .i64 y]] w fun e w' => e = .returned (.bool (eR f t k y)) ∧ Below w.heap.size w w' := by
  by_cases f1 : 1 ≤ f
  case neg =>
    rw [eR_false (by omega)]
    go_enter Tryd.func70, Tryd.ntmps70
    go_wp2
    go_ret
    exact ⟨rfl, by go_grown⟩
  by_cases f2 : f ≤ 1048575
  case neg =>
    rw [eR_false (by omega)]
    go_enter Tryd.func70, Tryd.ntmps70
    go_wp2
    go_ret
    exact ⟨rfl, by go_grown⟩
  by_cases t1 : 1 ≤ t
  case neg =>
    rw [eR_false (by omega)]
    go_enter Tryd.func70, Tryd.ntmps70
    go_wp2
    go_ret
    exact ⟨rfl, by go_grown⟩
  by_cases t2 : t ≤ 1048575
  case neg =>
    rw [eR_false (by omega)]
    go_enter Tryd.func70, Tryd.ntmps70
    go_wp2
    go_ret
    exact ⟨rfl, by go_grown⟩
  by_cases k1 : 1 ≤ k
  case neg =>
    rw [eR_false (by omega)]
    go_enter Tryd.func70, Tryd.ntmps70
    go_wp2
    go_ret
    exact ⟨rfl, by go_grown⟩
  by_cases k2 : k ≤ 3
  case neg =>
    rw [eR_false (by omega)]
    go_enter Tryd.func70, Tryd.ntmps70
    go_wp2
    go_ret
    exact ⟨rfl, by go_grown⟩
  by_cases y1 : 1 ≤ y
  case neg =>
    rw [eR_false (by omega)]
    go_enter Tryd.func70, Tryd.ntmps70
    go_wp2
    go_ret
    exact ⟨rfl, by go_grown⟩
  by_cases y2 : y ≤ 1048575
  case neg =>
    rw [eR_false (by omega)]
    go_enter Tryd.func70, Tryd.ntmps70
    go_wp2
    go_ret
    exact ⟨rfl, by go_grown⟩
  rw [eR_iff.2 ⟨f1, f2, t1, t2, k1, k2, y1, y2⟩]
  go_enter Tryd.func70, Tryd.ntmps70
  go_wp2
  go_ret
  exact ⟨rfl, by go_grown⟩
theorem edge_bits (f t k y : Int) (f1 : 1 ≤ f) (f2 : f ≤ 1048575) (t1 : 1 ≤ t) (t2 : t ≤ 1048575) (k1 : 1 ≤ k) (k2 : k ≤ 3) (y1 : 1 ≤ y) (y2 : y ≤ 1048575) :
    bits BinOp.or IntKind.u64 (bits BinOp.or IntKind.u64 (bits BinOp.or IntKind.u64 (f * 4398046511104) (k * 1099511627776)) (y * 1048576)) t = eNum f t k y := by
  rw [u64_join (f * 4398046511104) (k * 1099511627776) 42 (by omega) (by omega) (by omega) (by omega) (by omega) (by omega)]
  rw [u64_join _ (y * 1048576) 40 (by omega) (by omega) (by omega) (by omega) (by omega) (by omega)]
  rw [u64_join _ t 20 (by omega) (by omega) (by omega) (by omega) (by omega) (by omega)]
  unfold eNum
  omega
set_option maxHeartbeats 1000000 in
theorem edge_ok (f t k y : Int) (w : World) (hR : eR f t k y = true) :
    Calls Tryd.prog 42 #[.agg #[.int .i64 f, .int .i64 t, .int .i64 k, .int .i64 y]] w fun e w' => e = .returned (.tuple #[.int .u64 (eNum f t k y), .int .i64 0]) ∧ Below w.heap.size w w' := by
  obtain ⟨f1, f2, t1, t2, k1, k2, y1, y2⟩ := eR_iff.1 hR
  go_enter Tryd.func42, Tryd.ntmps42
  go_wp2_with fail
  refine (edgeRight_any _ _ _ _ _).mono ?_
  rw [hR]
  rintro e w1 ⟨rfl, hb⟩
  obtain ⟨⟨c0, c1, c2, c3⟩, _⟩ := blk4 hb (g := w.heap.size) (by simp) (heap_alloc_at _ _ _ rfl)
  clear hR
  go_wp2
  go_ret2
  exact ⟨ret_two (edge_bits f t k y f1 f2 t1 t2 k1 k2 y1 y2), ((Below.refl _ _).alloc (Nat.le_refl _) _).trans (hb.mono (by simp))⟩
set_option maxHeartbeats 1000000 in
theorem edge_bad (f t k y : Int) (w : World) (hR : eR f t k y = false) :
    Calls Tryd.prog 42 #[.agg #[.int .i64 f, .int .i64 t, .int .i64 k, .int .i64 y]] w fun e w' => e = .returned (.tuple #[.int .u64 0, .int .i64 1]) ∧ Below w.heap.size w w' := by
  go_enter Tryd.func42, Tryd.ntmps42
  go_wp2_with fail
  refine (edgeRight_any _ _ _ _ _).mono ?_
  rw [hR]
  rintro e w1 ⟨rfl, hb⟩
  go_wp2
  go_ret2
  exact ⟨rfl, ((Below.refl _ _).alloc (Nat.le_refl _) _).trans (hb.mono (by simp))⟩
end Go.Proofs.YtoakpmbiplmpbaaDoor.Pk
