/-
  Boxes of cells: what they hold, how one is stored into. Not a statement of the seat.
-/
import Derived.Test.YtbgepeokadmemaaHead1
import Derived.Test.YtbgepeokadmemaaStored
import Derived.Laws.Tables
import Derived.Laws.Rows
import Derived.Laws.CopyOwn
namespace Go.Proofs.Ytbgepeokadmemaa.F
open Go.ChangeShapes Go.WideShapes Go.ChangeAt Go.RowKit Base
def boxC (c : Cel) : Obj := .cells #[.int .i64 c.l, .int .i64 c.r, .int .i64 c.k, .int .i64 c.v, .int .i64 c.s, .int .i64 c.h] 66
theorem boxC_eq (c : Cel) : boxC c = .cells #[.int .i64 c.l, .int .i64 c.r, .int .i64 c.k, .int .i64 c.v, .int .i64 c.s, .int .i64 c.h] 66 := rfl
theorem cellsC {w : World} {g : Nat} {c : Cel} (h : w.heap[g]? = some (boxC c)) : g < w.heap.size ∧ w.cell? ⟨g, 0, none⟩ = some (.int .i64 c.l) ∧ w.cell? ⟨g, 1, none⟩ = some (.int .i64 c.r) ∧ w.cell? ⟨g, 2, none⟩ = some (.int .i64 c.k) ∧ w.cell? ⟨g, 3, none⟩ = some (.int .i64 c.v) ∧ w.cell? ⟨g, 4, none⟩ = some (.int .i64 c.s) ∧ w.cell? ⟨g, 5, none⟩ = some (.int .i64 c.h) := by
  refine ⟨heap_lt h, ?_⟩
  unfold boxC at h
  simp [World.cell?, h]
theorem frozC {w : World} {g : Nat} {c : Cel} (h : w.heap[g]? = some (boxC c)) : w.frozen? ⟨g, 0, none⟩ = false ∧ w.frozen? ⟨g, 1, none⟩ = false ∧ w.frozen? ⟨g, 2, none⟩ = false ∧ w.frozen? ⟨g, 3, none⟩ = false ∧ w.frozen? ⟨g, 4, none⟩ = false ∧ w.frozen? ⟨g, 5, none⟩ = false := by
  unfold boxC at h
  simp [World.frozen?, h]
set_option maxRecDepth 100000 in
/-- A cell stored into a box. -/
theorem wpList_store_cel {ops : Array Oper} {rest : List Oper} {o : Oper} {a : Act} {w : World} {Q : Exit → Act → World → Prop} (hgd : o.guard = none) (x y : Operand) (ho : o.op = .store 66 x y)
    (g : Nat) (c c0 : Cel) (hx : a.eval x = .pointer (some ⟨g, 0, none⟩)) (hy : a.eval y = .agg #[.int .i64 c.l, .int .i64 c.r, .int .i64 c.k, .int .i64 c.v, .int .i64 c.s, .int .i64 c.h]) (hg : w.heap[g]? = some (boxC c0))
    (h : ∀ w', Stored w g (boxC c) w' → wpList Try.prog ops Q rest (a.put o.dst undef) w') : wpList Try.prog ops Q (o :: rest) a w :=
  wpList_store_row hgd _ x y ho g _ hx hy 66 _ hg (by kernel_rfl) rfl (by simp [Value.oneCell']) (h _ (stored_setRow _ _ _ _ _ hg))
set_option maxRecDepth 100000 in
theorem wp_store_cel {o : Oper} {a : Act} {w : World} {K : Act → World → Prop} {Q : Exit → Act → World → Prop} (x y : Operand) (ho : o.op = .store 66 x y)
    (g : Nat) (c c0 : Cel) (hx : a.eval x = .pointer (some ⟨g, 0, none⟩)) (hy : a.eval y = .agg #[.int .i64 c.l, .int .i64 c.r, .int .i64 c.k, .int .i64 c.v, .int .i64 c.s, .int .i64 c.h]) (hg : w.heap[g]? = some (boxC c0))
    (h : ∀ w', Stored w g (boxC c) w' → K (a.put o.dst undef) w') : o.wp Try.prog a w K Q :=
  wp_store_row _ x y ho g _ hx hy 66 _ hg (by kernel_rfl) rfl (by simp [Value.oneCell']) (h _ (stored_setRow _ _ _ _ _ hg))
set_option maxRecDepth 100000 in
/-- A call's result, a cell in a box. -/
theorem results_cel {fn : Func} {p : Tmp} (h : fn.results = #[.cell p 66]) (tmps : Array Value) (w : World) (g : Nat) (c : Cel)
    (hp : tmps.getD p undef = .pointer (some ⟨g, 0, none⟩)) (hg : w.heap[g]? = some (boxC c)) : (results fn tmps).run Try.prog w = .ok (.agg #[.int .i64 c.l, .int .i64 c.r, .int .i64 c.k, .int .i64 c.v, .int .i64 c.s, .int .i64 c.h]) w :=
  results_cell_row h tmps w g _ _ _ _ hp hg Try.underlying66 rfl (by kernel_rfl)
end Go.Proofs.Ytbgepeokadmemaa.F
