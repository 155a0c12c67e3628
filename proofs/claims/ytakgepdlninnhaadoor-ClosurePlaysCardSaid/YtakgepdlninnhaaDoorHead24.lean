/-
  Contracts of small functions, several texts laid into one. Not a statement of the seat.
-/
import Derived.Test.YtakgepdlninnhaaDoorHead23
import Derived.Test.YtakgepdlninnhaaDoorFs1
namespace Go.Proofs.YtakgepdlninnhaaDoor.F
open Go.ChangeShapes Go.WideShapes Go.ChangeAt Go.RowKit Base Go.Sort
end Go.Proofs.YtakgepdlninnhaaDoor.F
namespace Go.Proofs.YtakgepdlninnhaaDoor.F
open Go.ChangeShapes Go.WideShapes Go.ChangeAt Go.RowKit Base Go.Sort
end Go.Proofs.YtakgepdlninnhaaDoor.F
namespace Go.Proofs.YtakgepdlninnhaaDoor.F
open Go.ChangeShapes Go.WideShapes Go.ChangeAt Go.RowKit Base Go.Sort
end Go.Proofs.YtakgepdlninnhaaDoor.F
