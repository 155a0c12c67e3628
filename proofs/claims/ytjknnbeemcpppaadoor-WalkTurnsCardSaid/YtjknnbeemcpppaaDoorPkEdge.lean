/-
  Contracts of the package pack for edges: which edges are right, their numbers, the edges of numbers. Not a statement of the seat.
-/
import Derived.Test.YtjknnbeemcpppaaDoorRows
import Derived.WalkKit
import Derived.ProofKit
import Derived.OpenShut
import Derived.Handy
import Derived.WalkLawsBesides
import Derived.WalkSpells
import Derived.BigQuiet
import Derived.Deep.QuietTactic
import Derived.Laws.BitsAllLaws
import Derived.Lib.Hide
import Derived.Test.YtjknnbeemcpppaaDoorBase
namespace Go.Proofs.YtjknnbeemcpppaaDoor.Pk
open Go.ChangeShapes Go.WideShapes Go.ChangeAt Go.RowKit

open Base
def eR (f t k y : Int) : Bool := decide (1 ≤ f ∧ f ≤ 1048575 ∧ 1 ≤ t ∧ t ≤ 1048575 ∧ 1 ≤ k ∧ k ≤ 3 ∧ 1 ≤ y ∧ y ≤ 1048575)
theorem eR_iff {f t k y : Int} : eR f t k y = true ↔ (1 ≤ f ∧ f ≤ 1048575 ∧ 1 ≤ t ∧ t ≤ 1048575 ∧ 1 ≤ k ∧ k ≤ 3 ∧ 1 ≤ y ∧ y ≤ 1048575) := by simp [eR]
theorem eR_false {f t k y : Int} (h : ¬ (1 ≤ f ∧ f ≤ 1048575 ∧ 1 ≤ t ∧ t ≤ 1048575 ∧ 1 ≤ k ∧ k ≤ 3 ∧ 1 ≤ y ∧ y ≤ 1048575)) : eR f t k y = false := by simp only [eR, decide_eq_false_iff_not]; exact h
def eNum (f t k y : Int) : Int := ((f * 4 + k) * 1048576 + y) * 1048576 + t
theorem edge_bits (f t k y : Int) (f1 : 1 ≤ f) (f2 : f ≤ 1048575) (t1 : 1 ≤ t) (t2 : t ≤ 1048575) (k1 : 1 ≤ k) (k2 : k ≤ 3) (y1 : 1 ≤ y) (y2 : y ≤ 1048575) :
    bits BinOp.or IntKind.u64 (bits BinOp.or IntKind.u64 (bits BinOp.or IntKind.u64 (f * 4398046511104) (k * 1099511627776)) (y * 1048576)) t = eNum f t k y := by
  rw [u64_join (f * 4398046511104) (k * 1099511627776) 42 (by omega) (by omega) (by omega) (by omega) (by omega) (by omega)]
  rw [u64_join _ (y * 1048576) 40 (by omega) (by omega) (by omega) (by omega) (by omega) (by omega)]
  rw [u64_join _ t 20 (by omega) (by omega) (by omega) (by omega) (by omega) (by omega)]
  unfold eNum
  omega
end Go.Proofs.YtjknnbeemcpppaaDoor.Pk
