/-
  Boxes of operations: what they hold, how one is stored into, a call's result in one. Not a statement of the seat.
-/
import Derived.Test.YtmgkpabagpgilaaFOpr
import Derived.Test.YtmgkpabagpgilaaHead3
namespace Go.Proofs.Ytmgkpabagpgilaa.F
open Go.ChangeShapes Go.WideShapes Go.ChangeAt Go.RowKit Base
/-- An operation's box. -/
def boxO (x : Opr) : Obj := .cells #[.bool x.rd, .int .i64 x.k, .int .i64 x.t, .int .i64 x.n] 45
theorem cellsO {w : World} {g : Nat} {x : Opr} (h : w.heap[g]? = some (boxO x)) : g < w.heap.size ∧ (w.cell? ⟨g, 0, none⟩ = some (.bool x.rd) ∧ w.cell? ⟨g, 1, none⟩ = some (.int .i64 x.k) ∧ w.cell? ⟨g, 2, none⟩ = some (.int .i64 x.t) ∧ w.cell? ⟨g, 3, none⟩ = some (.int .i64 x.n)) ∧
    w.frozen? ⟨g, 0, none⟩ = false ∧ w.frozen? ⟨g, 1, none⟩ = false ∧ w.frozen? ⟨g, 2, none⟩ = false ∧ w.frozen? ⟨g, 3, none⟩ = false := by
  refine ⟨heap_lt h, ?_⟩
  unfold boxO at h
  simp [World.cell?, World.frozen?, h]
set_option maxRecDepth 100000 in
theorem wpList_store_opr {ops : Array Oper} {rest : List Oper} {o : Oper} {a : Act} {w : World} {Q : Exit → Act → World → Prop} (hgd : o.guard = none) (x y : Operand) (ho : o.op = .store 45 x y)
    (g : Nat) (c c0 : Opr) (hx : a.eval x = .pointer (some ⟨g, 0, none⟩)) (hy : a.eval y = .agg #[.bool c.rd, .int .i64 c.k, .int .i64 c.t, .int .i64 c.n]) (hg : w.heap[g]? = some (boxO c0))
    (h : ∀ w', Stored w g (boxO c) w' → wpList Try.prog ops Q rest (a.put o.dst undef) w') : wpList Try.prog ops Q (o :: rest) a w :=
  wpList_store_row hgd _ x y ho g _ hx hy 45 _ hg (by kernel_rfl) rfl (by simp [Value.oneCell']) (h _ (stored_setRow _ _ _ _ _ hg))
theorem storedO_t {w : World} {g : Nat} {c : Opr} (h : w.heap[g]? = some (boxO c)) (x : Int) : Stored w g (boxO ⟨c.rd, c.k, x, c.n⟩) (w.setCell ⟨g, 2, none⟩ (.int .i64 x)) := by
  unfold boxO at h
  refine ⟨rfl, rfl, rfl, by simp [World.setCell], ?_, fun j hj => Below.heap_setCell _ _ _ _ hj⟩
  simp [World.setCell, Array.getElem?_modify, h, boxO]
theorem storedO_n {w : World} {g : Nat} {c : Opr} (h : w.heap[g]? = some (boxO c)) (x : Int) : Stored w g (boxO ⟨c.rd, c.k, c.t, x⟩) (w.setCell ⟨g, 3, none⟩ (.int .i64 x)) := by
  unfold boxO at h
  refine ⟨rfl, rfl, rfl, by simp [World.setCell], ?_, fun j hj => Below.heap_setCell _ _ _ _ hj⟩
  simp [World.setCell, Array.getElem?_modify, h, boxO]
end Go.Proofs.Ytmgkpabagpgilaa.F
