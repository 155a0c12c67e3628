/-
  What the frames of the statements on closures share: the library's table out of the row's own list, and a world that holds it. Not a statement of the seat.
-/
import Derived.Test.YtakgepdlninnhaaDoorHead19

import Derived.Test.YtakgepdlninnhaaDoorCards
import Derived.Test.YtakgepdlninnhaaDoorTie
import Derived.WalkKit
import Derived.ProofKit
import Derived.OpenShut
import Derived.Deep.DeepHandedRow
import Derived.Lib.LaidTab
import Derived.Carry
namespace Go.Proofs.YtakgepdlninnhaaDoor.Cs
open Go.ChangeShapes Go.WideShapes Go.ChangeAt Go.RowKit Base Bits
set_option maxRecDepth 100000 in
theorem gTab : Tryd.prog.globalNamed "math/bits.deBruijn64tab" = some 0 := by kernel_rfl
set_option maxRecDepth 100000 in
theorem gTabType : (Tryd.prog.globals[0]?).map (·.type) = some 98 := by kernel_rfl
set_option maxRecDepth 100000 in
theorem cellsTab : Tryd.prog.cellsOf 98 = 64 := by kernel_rfl
set_option maxRecDepth 100000 in
theorem cellsU8 : Tryd.prog.cellsOf 5 = 1 := by kernel_rfl
/-- What the rows' own lists give: the table's cells. -/
theorem tabW {W : World} (h : laidMetH Tryd.prog [("math/bits.deBruijn64tab", Rows.laid_math_bits_deBruijn64tab)] W) : TabW W := by
  have hT : Lib.TabIs Tryd.prog W "math/bits.deBruijn64tab" .u8 (Lib.deBruijn64tab.map fun (z : Nat) => (z : Int)) :=
    Lib.tabIs_of_head (rest := []) gTab gTabType Tryd.underlying98 Tryd.underlying5 cellsU8 cellsTab h
  have h1 : TabAt 0 Lib.deBruijn64tab W := by
    intro j hj
    have := hT.cell gTab j (by simpa using hj)
    rw [this]
    simp [List.getD_eq_getElem?_getD, hj]
  refine ⟨h1, ?_⟩
  rcases Nat.lt_or_ge 0 W.heap.size with h2 | h2
  · exact h2
  · have := h1 0 (by decide)
    simp [World.cell?, Array.getElem?_eq_none h2] at this
/-- A world for the witness: the settled one, the table holding what its text lays. -/
noncomputable def laidWorld (os : Os) : World :=
  { World.holding Tryd.prog os ⟨#[], #[], []⟩ with heap := (World.holding Tryd.prog os ⟨#[], #[], []⟩).heap.modify 0 fun
      | .cells _ t frozen => .cells (Lib.deBruijn64tab.map fun (z : Nat) => Value.int .u8 (z : Int)).toArray t frozen
      | o => o }
end Go.Proofs.YtakgepdlninnhaaDoor.Cs
