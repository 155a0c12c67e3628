/-
  Contracts of the document's own answers on numbers: Text. Not a statement of the seat.
-/
import Derived.Test.YtmgkpabagpgilaaRows
import Derived.Test.YtmgkpabagpgilaaNuMath
import Derived.WalkKit
import Derived.ProofKit
import Derived.Handy
import Derived.WalkLawsBesides
import Derived.WalkSpells
import Derived.Lib.Hide
import Derived.Laws.IdiomStrings
import Derived.Laws.NewBlocks
namespace Go.Proofs.Ytmgkpabagpgilaa.Nu
open Go.ChangeShapes Go.WideShapes Go.ChangeAt Go.RowKit Go.Lib
theorem below_alloc {w wr : World} (h : Below w.heap.size w wr) (o : Obj) : Below w.heap.size w (wr.alloc o) := h.alloc h.size o
end Go.Proofs.Ytmgkpabagpgilaa.Nu
