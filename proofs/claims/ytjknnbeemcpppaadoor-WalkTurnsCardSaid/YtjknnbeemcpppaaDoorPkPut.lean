/-
  A contract of the document's own Put on lists of edges. Not a statement of the seat.
-/
import Derived.Test.YtjknnbeemcpppaaDoorPkList
namespace Go.Proofs.YtjknnbeemcpppaaDoor.Pk
open Go.ChangeShapes Go.WideShapes Go.ChangeAt Go.RowKit Base Go.Shelf Go.Lib Go.Sort
/-- An edge's box. -/
abbrev boxE (e : E) : Obj := .cells #[.int .i64 e.1, .int .i64 e.2.1, .int .i64 e.2.2.1, .int .i64 e.2.2.2] 32
/-- What holds between the rounds: the new one lies in its box, behind it the list that grows. -/
def PS (w : World) (e : E) (wr : World) (v : Value) (zs : List E) : Prop := Below (w.alloc (boxE e)).heap.size (w.alloc (boxE e)) wr ∧ OwnE (w.alloc (boxE e)).heap.size wr v zs
section
variable {w wr w1 : World} {e x : E} {v : Value} {zs : List E}
theorem PS.all (h : PS w e wr v zs) : Below w.heap.size w wr := ((Below.refl _ w).alloc (Nat.le_refl _) (boxE e)).trans (h.1.mono (by simp))
theorem PS.box (h : PS w e wr v zs) : wr.heap[w.heap.size]? = some (boxE e) := (h.1.block _ (by simp)).trans (heap_alloc_at _ _ _ rfl)
theorem PS.step (h : PS w e wr v zs) (hb : Below wr.heap.size wr w1) : PS w e w1 v zs := ⟨h.1.trans (hb.mono h.1.size), h.2.below hb⟩
theorem PS.alloc (h : PS w e wr v zs) (o : Obj) : PS w e (wr.alloc o) v zs := h.step ((Below.refl _ wr).alloc (Nat.le_refl _) o)
theorem PS.start (w : World) (e : E) : PS w e (w.alloc (boxE e)) (.slice none 0 0) [] := ⟨Below.refl _ _, OwnE.nil _ _⟩
theorem PS.own_ne (h : PS w e wr v zs) : v.ownBlock ≠ some wr.heap.size := fun hh => by have := (World.ownsRow.lt h.2 _ hh).2; omega
theorem PS.own_box (h : PS w e wr v zs) : v.ownBlock ≠ some w.heap.size := fun hh => by have := (World.ownsRow.lt h.2 _ hh).1; simp at this; omega
end
theorem fold_stepE {e : E} {xs : List E} {k : Nat} {s : Bool × List E} (hk : k < xs.length) (h : (xs.take k).foldl (stepE e) (false, []) = s) : (xs.take (k + 1)).foldl (stepE e) (false, []) = stepE e s (xs.getD k zE) := by
  rw [List.take_succ_eq_append_getElem hk, List.foldl_append, h]
  simp [hk]
theorem fold_lenE {e : E} {xs : List E} {k : Nat} {d : Bool} {zs : List E} (h : (xs.take k).foldl (stepE e) (false, []) = (d, zs)) : zs.length ≤ 2 * xs.length := by
  have h1 := stepE_len e (xs.take k) (false, [])
  rw [h, List.length_take] at h1
  simp at h1
  omega
end Go.Proofs.YtjknnbeemcpppaaDoor.Pk
