/-
  Contract of the document's SameInts. Not a statement of the seat.
-/
import Derived.Test.YtmgkpabagpgilaaLst
import Derived.Deep.LoopGhost
import Derived.BigQuiet
namespace Go.Proofs.Ytmgkpabagpgilaa.Lst
open Go.ChangeShapes Go.WideShapes Go.ChangeAt Go.RowKit Base
theorem lists_ext {xs ys : List Int} (hl : xs.length = ys.length) (h : ∀ j, j < xs.length → xs.getD j 0 = ys.getD j 0) : xs = ys := by
  apply List.ext_getElem hl
  intro i h1 h2
  have := h i h1
  simpa [h1, h2] using this
/-- What SameInts leaves. -/
def BoolDrew (r : Bool) (w : World) (e : Ending) (w' : World) : Prop := e = .returned (.bool r) ∧ ∃ q, w' = w.drewN q
end Go.Proofs.Ytmgkpabagpgilaa.Lst
