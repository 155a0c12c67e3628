/-
  The library contracts that this program can use, at its own numbers, by the shelf. Not a statement of the seat.
-/
import Derived.Shelf.Lay
import Derived.Shelf.LaySoft

import Derived.Test.YtbgepeokadmemaaProg
namespace Go.Proofs
open Go.Shelf
shelf_tried
end Go.Proofs
