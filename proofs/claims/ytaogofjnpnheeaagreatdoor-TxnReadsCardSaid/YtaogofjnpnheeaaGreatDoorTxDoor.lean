/-
  What the frames of the statements on transactions share: the library's tables out of the row's own list, and a world that holds them. Not a statement of the seat.
-/
import Derived.Test.YtaogofjnpnheeaaGreatDoorTxW
import Derived.Test.YtaogofjnpnheeaaGreatDoorNuTx
import Derived.Test.YtaogofjnpnheeaaGreatDoorCards
import Derived.Test.YtaogofjnpnheeaaGreatDoorTie
import Derived.WalkKit
import Derived.ProofKit
import Derived.OpenShut
import Derived.Deep.DeepHandedRow
import Derived.Lib.LaidTab
import Derived.Lib.TrailingZeros
import Derived.LaidSub
import Derived.Carry
import Derived.ChangeMaps5
namespace Go.Proofs.YtaogofjnpnheeaaGreatDoor.Tx
open Go.ChangeShapes Go.WideShapes Go.ChangeAt Go.RowKit Base Lst F Nu
theorem powType : (Tryz.prog.globals[1]?).map (·.type) = some 134 := by kernel_rfl
theorem powCells : Tryz.prog.cellsOf 134 = 20 := by kernel_rfl
theorem u64Cells : Tryz.prog.cellsOf 63 = 1 := by kernel_rfl
theorem powLaid {H : Type} : (Rows.laid_internal_strconv_uint64pow10 : DataW H) = Lib.tabData .u64 Lib.pow10Tab := by kernel_rfl
/-- What the rows' own lists give: the table of powers of ten. -/
theorem pow_of {W : World} (h : laidMetH Tryz.prog [("math/bits.deBruijn32tab", Rows.laid_math_bits_deBruijn32tab), ("math/bits.deBruijn64tab", Rows.laid_math_bits_deBruijn64tab), ("internal/strconv.uint64pow10", Rows.laid_internal_strconv_uint64pow10)] W) : Pow W := by
  have h2 := h.filter (fun x => x.1 == "internal/strconv.uint64pow10")
  have h3 : laidMetH Tryz.prog [("internal/strconv.uint64pow10", Rows.laid_internal_strconv_uint64pow10)] W := by simpa using h2
  have h4 : laidMet Tryz.prog [("internal/strconv.uint64pow10", Lib.tabData .u64 Lib.pow10Tab)] W := h3
  exact Lib.tabIs_of_head (rest := []) gPow powType Tryz.underlying134 Tryz.underlying63 u64Cells powCells h4
/-- A block with other cells. -/
def withCells (cs : Array Value) : Obj → Obj
  | .cells _ t frozen => .cells cs t frozen
  | o => o
/-- A world for the witness: the settled one, the tables holding what their texts lay. -/
noncomputable def laidWorld (os : Os) : World :=
  { World.holding Tryz.prog os ⟨#[], #[], []⟩ with heap :=
      (((World.holding Tryz.prog os ⟨#[], #[], []⟩).heap.modify 3 (withCells (Lib.deBruijn64tab.map fun (z : Nat) => Value.int .u8 (z : Int)).toArray)).modify 2
        (withCells (Lib.deBruijn32tab.map fun (z : Nat) => Value.int .u8 (z : Int)).toArray)).modify 1 (withCells (Lib.pow10Tab.map fun (z : Int) => Value.int .u64 z).toArray) }
section
variable {H : Type} {enc : TypeId × Value → H} {w : World}
set_option maxRecDepth 100000 in
theorem open_tx2 {r : Reach} {b0 : Nat} {v : Value} {d : DataW H} {p : List MemPlace} (hv : Value.okWide Tryz.prog w r b0 24 v) (h : DataW.Trod enc Tryz.prog w 0 (fun _ => true) true 24 v d p) : ∃ (id : Int) (dn : Bool) (q : Option Addr) (c : Nat) (l : List Opr), (-9223372036854775808 ≤ id ∧ id ≤ 9223372036854775807) ∧ l.length ≤ c ∧ Oprs 0 w (.slice q l.length c) l ∧ (∀ x ∈ l, Opr.ok x) ∧ v = .agg #[.int .i64 id, .bool dn, .slice q l.length c] := by
  obtain ⟨cs, rfl, hsz⟩ := okWide_struct Tryz.underlying24 hv
  obtain ⟨fuel, hfu⟩ := h
  obtain ⟨xs, n', _, _, hcl, hxl, hg⟩ := DataW.trod_struct Tryz.underlying24 hfu
  have hsz' : cs.size = 3 := hsz
  have hxl' : xs.length = 3 := hxl
  obtain ⟨l⟩ := cs
  obtain ⟨u0, u1, u2, rfl⟩ : ∃ u0 u1 u2, l = [u0, u1, u2] := by
    match l, hsz' with
    | [a0, a1, a2], _ => exact ⟨a0, a1, a2, rfl⟩
  have h0 := hg 0 _ rfl
  rw [List.getElem?_eq_getElem (by omega)] at h0
  obtain ⟨z0, hz0, _, hb0⟩ := DataW.trod_int Tryz.underlying3 h0
  have e0 : [u0] = _ := hz0
  obtain rfl := (List.cons.inj e0).1
  have h1 := hg 1 _ rfl
  rw [List.getElem?_eq_getElem (by omega)] at h1
  obtain ⟨z1, hz1, _⟩ := DataW.trod_bool Tryz.underlying4 h1
  have e1 : [u1] = _ := hz1
  obtain rfl := (List.cons.inj e1).1
  have h2 := hg 2 _ rfl
  rw [List.getElem?_eq_getElem (by omega)] at h2
  obtain ⟨l, ⟨q, c, rfl, hqc⟩, h3, h4⟩ := open_opr_cells (u := u2) h2
  exact ⟨z0, z1, q, c, l, bounds_i64 hb0, hqc, h3, h4, rfl⟩
set_option maxRecDepth 100000 in
theorem open_tx {r : Reach} {b0 : Nat} {v : Value} {d : DataW H} {p : List MemPlace} (hv : Value.okWide Tryz.prog w r b0 24 v) (h : DataW.Trod enc Tryz.prog w 0 (fun _ => true) true 24 v d p) : ∃ (id : Int) (dn : Bool) (s : Value) (l : List Opr), (-9223372036854775808 ≤ id ∧ id ≤ 9223372036854775807) ∧ Oprs 0 w s l ∧ (∀ x ∈ l, Opr.ok x) ∧ v = .agg #[.int .i64 id, .bool dn, s] := by
  obtain ⟨id, dn, q, c, l, h1, _, h3, h4, h5⟩ := open_tx2 hv h
  exact ⟨id, dn, _, l, h1, h3, h4, h5⟩
end
end Go.Proofs.YtaogofjnpnheeaaGreatDoor.Tx
