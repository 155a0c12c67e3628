/-
  What the frames of the statements on operations share: the library's tables out of the row's own list, and a world that holds them. Not a statement of the seat.
-/
import Derived.Test.YtjgmncpapcmleaaDoorOpLives
import Derived.Test.YtjgmncpapcmleaaDoorCards
import Derived.Test.YtjgmncpapcmleaaDoorTie
import Derived.WalkKit
import Derived.ProofKit
import Derived.OpenShut
import Derived.Deep.DeepHandedRow
import Derived.Lib.LaidTab
import Derived.Lib.TrailingZeros
import Derived.LaidSub
import Derived.Carry
import Derived.ChangeMaps5
namespace Go.Proofs.YtjgmncpapcmleaaDoor.Op
open Go.ChangeShapes Go.WideShapes Go.ChangeAt Go.RowKit Base Lst Nu
theorem powType : (Tryd.prog.globals[1]?).map (·.type) = some 149 := by kernel_rfl
theorem powCells : Tryd.prog.cellsOf 149 = 20 := by kernel_rfl
theorem u64Cells : Tryd.prog.cellsOf 64 = 1 := by kernel_rfl
/-- What the rows' own lists give: the table of powers of ten. -/
theorem pow_of {W : World} (h : laidMetH Tryd.prog [("math/bits.deBruijn32tab", Rows.laid_math_bits_deBruijn32tab), ("math/bits.deBruijn64tab", Rows.laid_math_bits_deBruijn64tab), ("internal/strconv.uint64pow10", Rows.laid_internal_strconv_uint64pow10), ("unicode/utf8.acceptRanges", Rows.laid_unicode_utf8_acceptRanges), ("unicode/utf8.first", Rows.laid_unicode_utf8_first)] W) : Pow W := by
  have h2 := h.filter (fun x => x.1 == "internal/strconv.uint64pow10")
  have h3 : laidMetH Tryd.prog [("internal/strconv.uint64pow10", Rows.laid_internal_strconv_uint64pow10)] W := by simpa using h2
  have h4 : laidMet Tryd.prog [("internal/strconv.uint64pow10", Lib.tabData .u64 Lib.pow10Tab)] W := h3
  exact Lib.tabIs_of_head (rest := []) gPow powType Tryd.underlying149 Tryd.underlying64 u64Cells powCells h4
/-- A block with other cells. -/
def withCells (cs : Array Value) : Obj → Obj
  | .cells _ t frozen => .cells cs t frozen
  | o => o
mutual
/-- The cells of a datum of numbers. -/
def datCells : DataW Unit → List Value
  | .lit (.int k n) => [.int k n]
  | .agg parts => datCellsAll parts
  | _ => []
def datCellsAll : List (DataW Unit) → List Value
  | [] => []
  | d :: r => datCells d ++ datCellsAll r
end
/-- A world for the witness: the settled one, the tables holding what their texts lay. -/
noncomputable def laidWorld (os : Os) : World :=
  { World.holding Tryd.prog os ⟨#[], #[], []⟩ with heap :=
      (((((World.holding Tryd.prog os ⟨#[], #[], []⟩).heap.modify 5 (withCells (Lib.deBruijn64tab.map fun (z : Nat) => Value.int .u8 (z : Int)).toArray)).modify 4
        (withCells (Lib.deBruijn32tab.map fun (z : Nat) => Value.int .u8 (z : Int)).toArray)).modify 1 (withCells (Lib.pow10Tab.map fun (z : Int) => Value.int .u64 z).toArray)).modify 3
        (withCells (datCells Rows.laid_unicode_utf8_acceptRanges).toArray)).modify 2 (withCells (datCells Rows.laid_unicode_utf8_first).toArray) }
end Go.Proofs.YtjgmncpapcmleaaDoor.Op
