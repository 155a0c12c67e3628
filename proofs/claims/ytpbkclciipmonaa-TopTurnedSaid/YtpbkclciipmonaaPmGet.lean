/-
  Contracts of maps in an arena: Get, At, Rank. Not a statement of the seat.
-/
import Derived.Test.YtpbkclciipmonaaHead
import Derived.Test.YtpbkclciipmonaaPmMap
namespace Go.Proofs.Ytpbkclciipmonaa.F
open Go.ChangeShapes Go.WideShapes Go.ChangeAt Go.RowKit Base
namespace Tre
def look (key : Int) : Tre → Int × Bool
  | nil => (0, false)
  | node l k v r => if key < k then l.look key else if k < key then r.look key else (v, true)
def nth (i : Int) : Tre → Pai × Bool
  | nil => (Pai.zero, false)
  | node l k v r => if i < (l.size : Int) then l.nth i else if (l.size : Int) < i then r.nth (i - ((l.size : Int) + 1)) else (⟨k, v⟩, true)
def rank (key : Int) : Tre → Nat
  | nil => 0
  | node l k _ r => if key ≤ k then l.rank key else l.size + 1 + r.rank key
theorem rank_le (key : Int) (t : Tre) : t.rank key ≤ t.size := by
  induction t with
  | nil => simp [rank]
  | node l k v r h1 h2 => simp only [rank, size]; split <;> omega
end Tre
end Go.Proofs.Ytpbkclciipmonaa.F
