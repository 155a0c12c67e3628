/-
  What an editor's call leaves, told by trees; boxes. Not a statement of the seat.
-/
import Derived.Test.YtbgepeokadmemaaPsOut
import Derived.Test.YtbgepeokadmemaaPsEd
import Derived.Deep.Cut
import Derived.Deep.CutRange
import Derived.Deep.DeepCutAuto
import Derived.Deep.RegionHeld3
import Derived.Shelf.Abstract
namespace Go.Proofs.Ytbgepeokadmemaa.F
open Go.ChangeShapes Go.WideShapes Go.ChangeAt Go.RowKit Base
theorem EDS.tail {B : Nat} {pv : Value} {root had : Int} {room : Nat} {w0 w : World} {o0 o : Option Nat} {zs : List Cel} {why : Int} {p : Nat × Obj} {bs : List (Nat × Obj)} (h : EDS B pv root had room w0 o0 w o zs why (p :: bs)) : EDS B pv root had room w0 o0 w o zs why bs :=
  ⟨h.1, h.2.1, h.2.2.1, fun q hq => h.2.2.2.1 q (List.mem_cons_of_mem _ hq), (List.pairwise_cons.1 h.2.2.2.2).2⟩
theorem EDP.len {B : Nat} {pv : Value} {o : Option Nat} {root had : Int} {room : Nat} {zs : List Cel} {why : Int} {v : Value} {w : World} {e : Ending} {w' : World} (h : EDP B pv o root had room zs why v w e w') : zs.length ≤ room := by
  obtain ⟨_, o', h, _⟩ := h
  exact h.2.le.1
/-- What an editor's call leaves, on the way from W0 on: the tree; the boxes. -/
def EOS (B : Nat) (pv : Value) (root had : Int) (room : Nat) (W0 : World) (O0 : Option Nat) (zs : List Cel) (n : Nat) (T : Tre) (bs : List (Nat × Obj)) (e : Ending) (w' : World) : Prop :=
  ∃ R o', OutZ room zs n T R ∧ R.1.length ≤ room ∧ e = .returned (.int .i64 R.2.2) ∧ EDS B pv root had room W0 O0 w' o' R.1 R.2.1 bs
theorem EOS.mono {B : Nat} {pv : Value} {root had : Int} {room : Nat} {W0 : World} {O0 : Option Nat} {zs : List Cel} {n m : Nat} {T : Tre} {bs : List (Nat × Obj)} {e : Ending} {w' : World} (h : EOS B pv root had room W0 O0 zs n T bs e w') (hn : n ≤ m) : EOS B pv root had room W0 O0 zs m T bs e w' := by
  obtain ⟨R, o', h1, h2, h3, h4⟩ := h
  exact ⟨R, o', h1.mono hn, h2, h3, h4⟩
/-- A cell as a value. -/
def celV (c : Cel) : Value := .agg #[.int .i64 c.l, .int .i64 c.r, .int .i64 c.k, .int .i64 c.v, .int .i64 c.s, .int .i64 c.h]
/-- A box with an editor's pointer. -/
def boxE (B : Nat) : Obj := .cells #[.pointer (some ⟨B, 0, none⟩)] 62
theorem cellsE {w : World} {g B : Nat} (h : w.heap[g]? = some (boxE B)) : g < w.heap.size ∧ w.cell? ⟨g, 0, none⟩ = some (.pointer (some ⟨B, 0, none⟩)) := by
  refine ⟨heap_lt h, ?_⟩
  unfold boxE at h
  simp [World.cell?, h]
/-- A box with a number. -/
def boxI (x : Int) : Obj := .cells #[.int .i64 x] 3
theorem cellsI {w : World} {g : Nat} {x : Int} (h : w.heap[g]? = some (boxI x)) : g < w.heap.size ∧ w.cell? ⟨g, 0, none⟩ = some (.int .i64 x) ∧ w.frozen? ⟨g, 0, none⟩ = false := by
  refine ⟨heap_lt h, ?_⟩
  unfold boxI at h
  simp [World.cell?, World.frozen?, h]
/-- What put leaves of two trees. -/
theorem outZ_put {room : Nat} {zs : List Cel} {a b val : Int} {l r : Tre} (hz : zs.length ≤ room) (hl : Tr zs l a) (hr : Tr zs r b) (h1 : l.size ≤ 1000000) (h2 : r.size ≤ 1000000) : OutZ room zs 1 (.node l 0 val r) (putM room zs 0 ⟨a, b, 0, val, 0, 0⟩) :=
  ⟨put_out (c := ⟨a, b, 0, val, 0, 0⟩) hz hl hr (by omega) (by omega) (by omega), fun e => putM_z _ _ _ _ e (by decide)⟩
end Go.Proofs.Ytbgepeokadmemaa.F
