/-
  What the frames of the statements on walks share: the library's tables out of the row's own list, a world that holds them, and how a list of edges that came in reads. Not a statement of the seat.
-/
import Derived.Test.YtjknnbeemcpppaaDoorWkLv
import Derived.Test.YtjknnbeemcpppaaDoorStructs
import Derived.Test.YtjknnbeemcpppaaDoorCards
import Derived.Test.YtjknnbeemcpppaaDoorTie
import Derived.WalkKit
import Derived.ProofKit
import Derived.OpenShut
import Derived.Deep.DeepHandedRow
import Derived.Lib.LaidTab
import Derived.Lib.TrailingZeros
import Derived.LaidSub
import Derived.Carry
import Derived.ChangeMaps5
namespace Go.Proofs.YtjknnbeemcpppaaDoor.Wk
open Go.ChangeShapes Go.WideShapes Go.ChangeAt Go.RowKit Base Lst F Nu Pk
theorem powType : (Tryd.prog.globals[0]?).map (·.type) = some 90 := by kernel_rfl
theorem powCells : Tryd.prog.cellsOf 90 = 20 := by kernel_rfl
theorem u64Cells : Tryd.prog.cellsOf 55 = 1 := by kernel_rfl
theorem powLaid {H : Type} : (Rows.laid_internal_strconv_uint64pow10 : DataW H) = Lib.tabData .u64 Lib.pow10Tab := by kernel_rfl
/-- What the rows' own lists give: the table of powers of ten. -/
theorem pow_of {W : World} (h : laidMetH Tryd.prog [("math/bits.deBruijn32tab", Rows.laid_math_bits_deBruijn32tab), ("math/bits.deBruijn64tab", Rows.laid_math_bits_deBruijn64tab), ("internal/strconv.uint64pow10", Rows.laid_internal_strconv_uint64pow10)] W) : Pow W := by
  have h2 := h.filter (fun x => x.1 == "internal/strconv.uint64pow10")
  have h3 : laidMetH Tryd.prog [("internal/strconv.uint64pow10", Rows.laid_internal_strconv_uint64pow10)] W := by simpa using h2
  have h4 : laidMet Tryd.prog [("internal/strconv.uint64pow10", Lib.tabData .u64 Lib.pow10Tab)] W := h3
  exact Lib.tabIs_of_head (rest := []) gPow powType Tryd.underlying90 Tryd.underlying55 u64Cells powCells h4
/-- A block with other cells. -/
def withCells (cs : Array Value) : Obj → Obj
  | .cells _ t frozen => .cells cs t frozen
  | o => o
/-- A world for the witness: the settled one, the tables holding what their texts lay. -/
noncomputable def laidWorld (os : Os) : World :=
  { World.holding Tryd.prog os ⟨#[], #[], []⟩ with heap :=
      (((World.holding Tryd.prog os ⟨#[], #[], []⟩).heap.modify 2 (withCells (Lib.deBruijn64tab.map fun (z : Nat) => Value.int .u8 (z : Int)).toArray)).modify 1
        (withCells (Lib.deBruijn32tab.map fun (z : Nat) => Value.int .u8 (z : Int)).toArray)).modify 0 (withCells (Lib.pow10Tab.map fun (z : Int) => Value.int .u64 z).toArray) }
theorem edge_flat : flatB Tryd.prog 8 32 = true := by kernel_rfl
theorem edge_cells : Tryd.prog.cellsOf 32 = 4 := by kernel_rfl
section
variable {H : Type} {enc : TypeId × Value → H} {w : World}
set_option maxRecDepth 100000 in
theorem open_eds {r : Reach} {b0 : Nat} {v : Value} {d : DataW H} {p : List MemPlace} (hv : Value.okWide Tryd.prog w r b0 22 v) (h : DataW.Trod enc Tryd.prog w 0 (fun _ => true) true 22 v d p) : ∃ xs, EL w v xs ∧ OkL xs := by
  obtain ⟨q, len, cap, G, rfl, hqc, hlc, hl, hG, hc⟩ := open_flat Tryd.underlying22 edge_flat (by rw [edge_cells]; decide) hv h
  rw [edge_cells] at hc
  have hlen : ((List.range len).map fun k => ((G k 0, G k 1, G k 2, G k 3) : E)).length = len := by simp
  refine ⟨(List.range len).map fun k => (G k 0, G k 1, G k 2, G k 3), ⟨?_, fun p n c e => by injection e with e1 e2 e3; subst e1 e2 e3; exact ⟨hlc, hqc⟩⟩, okL_of fun x hx => ?_⟩
  · by_cases h0 : len = 0
    · subst h0
      exact .inl ⟨⟨_, _, rfl⟩, rfl⟩
    · obtain ⟨g, o, hq, hg, _⟩ := hc 0 (by omega)
      subst hq
      refine .inr ⟨g, o, cap, by rw [hlen], hg, by rw [hlen]; exact hl, fun k hk => ?_⟩
      rw [hlen] at hk
      obtain ⟨g', o', hq, _, hcc⟩ := hc k hk
      simp only [Option.some.injEq, Addr.mk.injEq, and_true] at hq
      obtain ⟨rfl, rfl⟩ := hq
      have hget : ((List.range len).map fun k => ((G k 0, G k 1, G k 2, G k 3) : E)).getD k zE = (G k 0, G k 1, G k 2, G k 3) := by simp [List.getD_eq_getElem?_getD, hk]
      rw [hget]
      exact ⟨hcc 0 (by omega), hcc 1 (by omega), hcc 2 (by omega), hcc 3 (by omega)⟩
  · obtain ⟨k, _, rfl⟩ := List.mem_map.1 hx
    exact ⟨hG k 0, hG k 1, hG k 2, hG k 3⟩
end
end Go.Proofs.YtjknnbeemcpppaaDoor.Wk
