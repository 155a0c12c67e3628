/-
  Contracts of small functions, several texts laid into one. Not a statement of the seat.
-/
import Derived.Test.YtjknnbeemcpppaaDoorRows
import Derived.WalkKit
import Derived.ProofKit
import Derived.OpenShut
import Derived.Handy
import Derived.WalkLawsBesides
import Derived.WalkSpells
import Derived.BigQuiet
import Derived.Deep.QuietTactic
import Derived.Laws.BitsAllLaws
import Derived.Lib.Hide
import Derived.Test.YtjknnbeemcpppaaDoorPkEdge
import Derived.Test.YtjknnbeemcpppaaDoorPkV
namespace Go.Proofs.YtjknnbeemcpppaaDoor.Pk
open Go.ChangeShapes Go.WideShapes Go.ChangeAt Go.RowKit Base
end Go.Proofs.YtjknnbeemcpppaaDoor.Pk
namespace Go.Proofs.YtjknnbeemcpppaaDoor.Pk
open Go.ChangeShapes Go.WideShapes Go.ChangeAt Go.RowKit Base
end Go.Proofs.YtjknnbeemcpppaaDoor.Pk
