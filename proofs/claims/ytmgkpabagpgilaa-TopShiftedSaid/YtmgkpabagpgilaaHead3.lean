/-
  Contracts of small functions, several texts laid into one. Not a statement of the seat.
-/
import Derived.Test.YtmgkpabagpgilaaHead1
import Derived.Laws.Tables
import Derived.Laws.Rows
import Derived.Laws.CopyOwn
namespace Go.Proofs.Ytmgkpabagpgilaa.F
open Go.ChangeShapes Go.WideShapes Go.ChangeAt Go.RowKit Base
/-- A block has another object, all else is as it was. -/
def Stored (w : World) (g : Nat) (o : Obj) (w' : World) : Prop := w'.os = w.os ∧ w'.tape = w.tape ∧ w'.output = w.output ∧ w'.heap.size = w.heap.size ∧ w'.heap[g]? = some o ∧ ∀ k, k ≠ g → w'.heap[k]? = w.heap[k]?
theorem Stored.below {B : Nat} {w0 w w' : World} {g : Nat} {o : Obj} (h : Stored w g o w') (hb : Below B w0 w) (hg : B ≤ g) : Below B w0 w' :=
  ⟨h.1.trans hb.os, h.2.1.trans hb.tape, h.2.2.1.trans hb.output, by rw [h.2.2.2.1]; exact hb.size, fun k hk => (h.2.2.2.2.2 k (by omega)).trans (hb.block k hk)⟩
theorem stored_setRow (w : World) (g : Nat) (old cs : Array Value) (t : TypeId) (hg : w.heap[g]? = some (.cells old t)) : Stored w g (.cells cs t) (w.setRow g cs) :=
  ⟨rfl, rfl, rfl, size_setRow _ _ _, setRow_heap _ _ _ _ _ _ hg, fun _ hk => setRow_other _ _ _ _ hk⟩
end Go.Proofs.Ytmgkpabagpgilaa.F
namespace Go.Proofs.Ytmgkpabagpgilaa.Tx
open Go.ChangeShapes Go.WideShapes Go.ChangeAt Go.RowKit Base F
/-- A transaction's box. -/
def boxT (id : Int) (d : Bool) (s : Value) : Obj := .cells #[.int .i64 id, .bool d, s] 40
theorem cellsT {w : World} {g : Nat} {id : Int} {d : Bool} {s : Value} (h : w.heap[g]? = some (boxT id d s)) : g < w.heap.size ∧ (w.cell? ⟨g, 0, none⟩ = some (.int .i64 id) ∧ w.cell? ⟨g, 1, none⟩ = some (.bool d) ∧ w.cell? ⟨g, 2, none⟩ = some s) ∧
    w.frozen? ⟨g, 0, none⟩ = false ∧ w.frozen? ⟨g, 1, none⟩ = false ∧ w.frozen? ⟨g, 2, none⟩ = false := by
  refine ⟨heap_lt h, ?_⟩
  unfold boxT at h
  simp [World.cell?, World.frozen?, h]
set_option maxRecDepth 100000 in
theorem wpList_store_tx {ops : Array Oper} {rest : List Oper} {o : Oper} {a : Act} {w : World} {Q : Exit → Act → World → Prop} (hgd : o.guard = none) (x y : Operand) (ho : o.op = .store 40 x y)
    (g : Nat) (id : Int) (d : Bool) (p : Option Addr) (n c : Nat) (c0 : Array Value) (hx : a.eval x = .pointer (some ⟨g, 0, none⟩)) (hy : a.eval y = .agg #[.int .i64 id, .bool d, .slice p n c]) (hg : w.heap[g]? = some (.cells c0 40)) (h3 : c0.size = 3)
    (h : ∀ w', Stored w g (boxT id d (.slice p n c)) w' → wpList Try.prog ops Q rest (a.put o.dst undef) w') : wpList Try.prog ops Q (o :: rest) a w :=
  wpList_store_row hgd _ x y ho g _ hx hy 40 _ hg (by kernel_rfl) (by rw [h3]; rfl) (by simp [Value.oneCell']) (h _ (stored_setRow _ _ _ _ _ hg))
set_option maxRecDepth 100000 in
/-- A call's result, a transaction in a box. -/
theorem results_tx {fn : Func} {p : Tmp} (h : fn.results = #[.cell p 40]) (tmps : Array Value) (w : World) (g : Nat) (id : Int) (d : Bool) (s : Value)
    (hp : tmps.getD p undef = .pointer (some ⟨g, 0, none⟩)) (hg : w.heap[g]? = some (boxT id d s)) : (results fn tmps).run Try.prog w = .ok (.agg #[.int .i64 id, .bool d, s]) w :=
  results_cell_row h tmps w g _ _ _ _ hp hg Try.underlying40 rfl (by kernel_rfl)
theorem storedT_ops {w : World} {g : Nat} {id : Int} {d : Bool} {s : Value} (h : w.heap[g]? = some (boxT id d s)) (x : Value) : Stored w g (boxT id d x) (w.setCell ⟨g, 2, none⟩ x) := by
  unfold boxT at h
  refine ⟨rfl, rfl, rfl, by simp [World.setCell], ?_, fun j hj => Below.heap_setCell _ _ _ _ hj⟩
  simp [World.setCell, Array.getElem?_modify, h, boxT]
theorem stored_grown {w w' : World} {g : Nat} {o : Obj} (h : Stored w g o w') : w.grownBy w' (some g) := ⟨h.1, h.2.1, h.2.2.1, by rw [h.2.2.2.1]; exact Nat.le_refl _, fun k _ hk => h.2.2.2.2.2 k (fun e => hk (by rw [e]))⟩
end Go.Proofs.Ytmgkpabagpgilaa.Tx
