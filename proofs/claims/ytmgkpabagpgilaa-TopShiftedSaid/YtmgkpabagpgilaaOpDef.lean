/-
  Plain facts on operations: which are right, an operation's text. Not a statement of the seat.
-/
import Derived.Test.YtmgkpabagpgilaaNuLen
import Derived.Test.YtmgkpabagpgilaaHead1
import Derived.Test.YtmgkpabagpgilaaFOpr
namespace Go.Proofs.Ytmgkpabagpgilaa.Op
open Go.Lib Nu Pk F
def rightO (x : Opr) : Bool := if x.rd then vR x.t x.k x.n else decide (1 ≤ x.k ∧ x.k ≤ 1048575 ∧ x.t = 0 ∧ x.n = 0)
/-- An operation's text. -/
def textO (x : Opr) : List UInt8 :=
  if rightO x then (if x.rd then (if x.t = 0 then 114 :: (itoa x.k ++ 64 :: itoa x.t) else 114 :: (itoa x.k ++ 64 :: (itoa x.t ++ 46 :: itoa x.n))) else 119 :: itoa x.k) else []
theorem right_w {x : Opr} (h : rightO x = true) (hr : x.rd = false) : 1 ≤ x.k ∧ x.k ≤ 1048575 ∧ x.t = 0 ∧ x.n = 0 := by
  unfold rightO at h
  rw [hr] at h
  simpa using h
theorem right_r {x : Opr} (h : rightO x = true) (hr : x.rd = true) : (x.t = 0 ∧ x.n = 0 ∨ 1 ≤ x.t ∧ x.t ≤ 1048575 ∧ 1 ≤ x.n ∧ x.n ≤ 4095) ∧ 1 ≤ x.k ∧ x.k ≤ 1048575 := by
  unfold rightO at h
  rw [hr] at h
  exact vR_iff.1 h
end Go.Proofs.Ytmgkpabagpgilaa.Op
