/-
  Contracts of the package pack for versions: which are right, their numbers. Not a statement of the seat.
-/
import Derived.Test.YtjknnbeemcpppaaDoorRows
import Derived.WalkKit
import Derived.ProofKit
import Derived.OpenShut
import Derived.Handy
import Derived.WalkLawsBesides
import Derived.WalkSpells
import Derived.BigQuiet
import Derived.Deep.QuietTactic
import Derived.Laws.BitsAllLaws
import Derived.Lib.Hide
import Derived.Test.YtjknnbeemcpppaaDoorBase
namespace Go.Proofs.YtjknnbeemcpppaaDoor.Pk
open Go.ChangeShapes Go.WideShapes Go.ChangeAt Go.RowKit Base
def vR (t y n : Int) : Bool := decide ((t = 0 ∧ n = 0 ∨ 1 ≤ t ∧ t ≤ 1048575 ∧ 1 ≤ n ∧ n ≤ 4095) ∧ 1 ≤ y ∧ y ≤ 1048575)
theorem vR_iff {t y n : Int} : vR t y n = true ↔ ((t = 0 ∧ n = 0 ∨ 1 ≤ t ∧ t ≤ 1048575 ∧ 1 ≤ n ∧ n ≤ 4095) ∧ 1 ≤ y ∧ y ≤ 1048575) := by simp [vR]
theorem vR_false {t y n : Int} (h : ¬ ((t = 0 ∧ n = 0 ∨ 1 ≤ t ∧ t ≤ 1048575 ∧ 1 ≤ n ∧ n ≤ 4095) ∧ 1 ≤ y ∧ y ≤ 1048575)) : vR t y n = false := by simp only [vR, decide_eq_false_iff_not]; exact h
def vNum (t y n : Int) : Int := (t * 1048576 + y) * 4096 + n
theorem version_bits (t y n : Int) (t1 : 0 ≤ t) (t2 : t ≤ 1048575) (y1 : 1 ≤ y) (y2 : y ≤ 1048575) (n1 : 0 ≤ n) (n2 : n ≤ 4095) :
    bits BinOp.or IntKind.u64 (bits BinOp.or IntKind.u64 (t * 4294967296) (y * 4096)) n = vNum t y n := by
  rw [u64_join (t * 4294967296) (y * 4096) 32 (by omega) (by omega) (by omega) (by omega) (by omega) (by omega)]
  rw [u64_join _ n 12 (by omega) (by omega) (by omega) (by omega) (by omega) (by omega)]
  unfold vNum
  omega
end Go.Proofs.YtjknnbeemcpppaaDoor.Pk
