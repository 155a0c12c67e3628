/-
  Links: of. Not a statement of the seat.
-/
import Derived.Test.YtakgepdlninnhaaDoorHead8
import Derived.Test.YtakgepdlninnhaaDoorHead11
namespace Go.Proofs.YtakgepdlninnhaaDoor.Ln
open Go.ChangeShapes Go.WideShapes Go.ChangeAt Go.RowKit Base Ro F
def keepK (mask : Int) (x : Lk) : Bool := !(decide (bits .and .i64 x.ks mask = 0))
def ofK (ks : List Lk) (mask : Int) : List Int := (ks.filter (keepK mask)).map (·.nd)
end Go.Proofs.YtakgepdlninnhaaDoor.Ln
