/-
  Contract of the document's own answer on versions: which are right. Not a statement of the seat.
-/
import Derived.Test.YtaogofjnpnheeaaGreatDoorHead
namespace Go.Proofs.YtaogofjnpnheeaaGreatDoor.Pk
open Go.ChangeShapes Go.WideShapes Go.ChangeAt Go.RowKit Base
end Go.Proofs.YtaogofjnpnheeaaGreatDoor.Pk
