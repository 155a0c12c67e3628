/-
  A map, its arena, its pairs, in a box: what it holds, how it is stored, how it is told. Not a statement of the seat.
-/
import Derived.Test.YtpmimngngehmlaaPmMany
namespace Go.Proofs.Ytpmimngngehmlaa.F
open Go.ChangeShapes Go.WideShapes Go.ChangeAt Go.RowKit Base
/-- A map, its arena, its pairs. -/
structure On where
  m : Option Addr
  r : Int
  a : Option Addr
  p : Option Addr
  n : Nat
  c : Nat
def On.zero : On := ⟨none, 0, none, none, 0, 0⟩
def On.cells (x : On) : List Value := [.pointer x.m, .int .i64 x.r, .pointer x.a, .slice x.p x.n x.c]
def boxN (x : On) : Obj := .cells #[.pointer x.m, .int .i64 x.r, .pointer x.a, .slice x.p x.n x.c] 31
theorem cellsN {w : World} {g : Nat} {x : On} (h : w.heap[g]? = some (boxN x)) : g < w.heap.size ∧ w.cell? ⟨g, 0, none⟩ = some (.pointer x.m) ∧ w.cell? ⟨g, 1, none⟩ = some (.int .i64 x.r) ∧ w.cell? ⟨g, 2, none⟩ = some (.pointer x.a) ∧ w.cell? ⟨g, 3, none⟩ = some (.slice x.p x.n x.c) := by
  refine ⟨heap_lt h, ?_⟩
  unfold boxN at h
  simp [World.cell?, h]
def boxD6 (a b c d : Int) : Obj := .cells #[.int .i64 a, .int .i64 b, .int .i64 c, .int .i64 d] 34
theorem cellsD6 {w : World} {g : Nat} {a b c d : Int} (h : w.heap[g]? = some (boxD6 a b c d)) : g < w.heap.size ∧ w.cell? ⟨g, 0, none⟩ = some (.int .i64 a) ∧ w.cell? ⟨g, 1, none⟩ = some (.int .i64 b) ∧ w.cell? ⟨g, 2, none⟩ = some (.int .i64 c) ∧ w.cell? ⟨g, 3, none⟩ = some (.int .i64 d) := by
  refine ⟨heap_lt h, ?_⟩
  unfold boxD6 at h
  simp [World.cell?, h]
set_option maxRecDepth 100000 in
theorem wpList_store_one {ops : Array Oper} {rest : List Oper} {o : Oper} {a : Act} {w : World} {Q : Exit → Act → World → Prop} (hgd : o.guard = none) (x y : Operand) (ho : o.op = .store 31 x y)
    (g : Nat) (z z0 : On) (hx : a.eval x = .pointer (some ⟨g, 0, none⟩)) (hy : a.eval y = .agg #[.pointer z.m, .int .i64 z.r, .pointer z.a, .slice z.p z.n z.c]) (hg : w.heap[g]? = some (boxN z0))
    (h : ∀ w', Stored w g (boxN z) w' → wpList Try.prog ops Q rest (a.put o.dst undef) w') : wpList Try.prog ops Q (o :: rest) a w :=
  wpList_store_row hgd _ x y ho g _ hx hy 31 _ hg (by kernel_rfl) rfl (by simp [Value.oneCell']) (h _ (stored_setRow _ _ _ _ _ hg))
set_option maxRecDepth 100000 in
theorem wp_store_one {o : Oper} {a : Act} {w : World} {K : Act → World → Prop} {Q : Exit → Act → World → Prop} (x y : Operand) (ho : o.op = .store 31 x y)
    (g : Nat) (z z0 : On) (hx : a.eval x = .pointer (some ⟨g, 0, none⟩)) (hy : a.eval y = .agg #[.pointer z.m, .int .i64 z.r, .pointer z.a, .slice z.p z.n z.c]) (hg : w.heap[g]? = some (boxN z0))
    (h : ∀ w', Stored w g (boxN z) w' → K (a.put o.dst undef) w') : o.wp Try.prog a w K Q :=
  wp_store_row _ x y ho g _ hx hy 31 _ hg (by kernel_rfl) rfl (by simp [Value.oneCell']) (h _ (stored_setRow _ _ _ _ _ hg))
set_option maxRecDepth 100000 in
theorem one_info : (Try.prog.info? 31).map (fun i => (i.zero, i.size, i.bytes)) = some (some (.agg #[.pointer none, .int .i64 0, .pointer none, .slice none 0 0]), 4, 48) := by kernel_rfl
/-- One more is put behind a slice of such ones. -/
theorem append_one {ops : Array Oper} {rest : List Oper} {oo : Oper} {a : Act} {Q : Exit → Act → World → Prop} (hgd : oo.guard = none) (s x : Operand) (ho : oo.op = .call { callee := .builtin .append, args := #[s, x], argTypes := #[32, 32] })
    {w : World} {v : Value} {p : Nat × Obj} {n : Nat} {xs : List Value} {g' c : Nat} {z : On} (h : RowB 31 4 p v n xs) (hp : w.heap[p.1]? = some p.2) (hs : a.eval s = v) (hx : a.eval x = .slice (some ⟨g', 0, none⟩) 1 c) (hg : w.heap[g']? = some (boxN z)) (hl : n ≤ 100000)
    (hK : ∀ c' w' g'' ob', RowB 31 4 (g'', ob') (.slice (some ⟨g'', 0, none⟩) (n + 1) c') (n + 1) (xs ++ z.cells) → w'.heap[g'']? = some ob' → w.grownBy w' (some p.1) → (g'' = p.1 ∨ g'' = w.heap.size) → wpList Try.prog ops Q rest (a.put oo.dst (.slice (some ⟨g'', 0, none⟩) (n + 1) c')) w') :
    wpList Try.prog ops Q (oo :: rest) a w := by
  obtain ⟨i0, hi, hz0, hz1, hz2⟩ := info_parts one_info
  exact append_row hgd s x (i0 := i0) ho Try.underlying32 hi hz0 hz1 hz2 rfl (by omega) (by omega) (ys := z.cells) h hp hs hx hg rfl (by simp [Value.oneCell', On.cells]) hl fun v' w' p' hr hp hg he => by
    obtain ⟨g'', c', e, hv, _⟩ := hr.open_
    obtain ⟨g3, ob'⟩ := p'
    simp only at e
    subst e
    subst hv
    exact hK c' w' g3 ob' hr hp hg he
end Go.Proofs.Ytpmimngngehmlaa.F
