/-
  Contracts of the document's answers for edges and versions (package tenterref02), and of pack.Less. Not a statement of the seat.
-/
import Derived.Test.YtjknnbeemcpppaaDoorPkSorted
import Derived.Test.YtjknnbeemcpppaaDoorHead1
namespace Go.Proofs.YtjknnbeemcpppaaDoor.Pk
open Go.ChangeShapes Go.WideShapes Go.ChangeAt Go.RowKit Base Go.Shelf Go.Lib Go.Sort
theorem less_any (x y : E) (w : World) : Calls Tryd.prog 40 #[.agg #[.int .i64 x.1, .int .i64 x.2.1, .int .i64 x.2.2.1, .int .i64 x.2.2.2], .agg #[.int .i64 y.1, .int .i64 y.2.1, .int .i64 y.2.2.1, .int .i64 y.2.2.2]] w fun e w' => e = .returned (.bool (ltE x y)) ∧ Gr w w' := by
  have hc := fun W => compare_any x.1 x.2.1 x.2.2.1 x.2.2.2 y.1 y.2.1 y.2.2.1 y.2.2.2 W
  have HL := Lib.hid (ltOf_cfE x y)
  unfold ltOf cfE at HL
  generalize cmpE x.1 x.2.1 x.2.2.1 x.2.2.2 y.1 y.2.1 y.2.2.1 y.2.2.2 = c at hc HL
  have HC := Lib.hid hc
  clear hc
  go_enter Tryd.func40, Tryd.ntmps40
  go_wp2_with fail
  refine (HC.out _).mono ?_
  rintro e w1 ⟨rfl, hg⟩
  go_wp2
  go_ret
  exact ⟨ret_bool HL.out, (((Gr.refl _).alloc _).alloc _).trans hg⟩
end Go.Proofs.YtjknnbeemcpppaaDoor.Pk
