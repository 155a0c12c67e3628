/-
  Contract of the builder's first. Not a statement of the seat.
-/
import Derived.Test.YtpbkclciipmonaaPmWith
namespace Go.Proofs.Ytpbkclciipmonaa.F
open Go.ChangeShapes Go.WideShapes Go.ChangeAt Go.RowKit Base
set_option maxRecDepth 100000 in
theorem wp_store_pai {o : Oper} {a : Act} {w : World} {K : Act → World → Prop} {Q : Exit → Act → World → Prop} (x y : Operand) (ho : o.op = .store 56 x y)
    (g : Nat) (c c0 : Pai) (hx : a.eval x = .pointer (some ⟨g, 0, none⟩)) (hy : a.eval y = .agg #[.int .i64 c.k, .int .i64 c.v]) (hg : w.heap[g]? = some (boxP c0))
    (h : ∀ w', Stored w g (boxP c) w' → K (a.put o.dst undef) w') : o.wp Try.prog a w K Q :=
  wp_store_row _ x y ho g _ hx hy 56 _ hg (by kernel_rfl) rfl (by simp [Value.oneCell']) (h _ (stored_setRow _ _ _ _ _ hg))
theorem BS.boxp {B : Nat} {pv : Value} {root had : Int} {room : Nat} {w0 w : World} {o0 o : Option Nat} {zs : List Cel} {why : Int} {bs : List (Nat × Obj)} (h : BS B pv root had room w0 o0 w o zs why bs) {g : Nat} {c : Pai} (hp : (g, boxP c) ∈ bs) : w.cell? ⟨g, 0, none⟩ = some (.int .i64 c.k) ∧ w.cell? ⟨g, 1, none⟩ = some (.int .i64 c.v) := (cellsP (h.at_ hp)).2
/-- What the builder's first leaves. -/
def BO2 (B : Nat) (pv : Value) (o : Option Nat) (root had : Int) (room : Nat) (zs : List Cel) (n : Nat) (p : Pai) (T : Tre) (w : World) (e : Ending) (w' : World) : Prop :=
  ∃ R, Out room zs n T R ∧ R.1.length ≤ room ∧ BP B pv o root had room R.1 R.2.1 (.tuple #[.agg #[.int .i64 p.k, .int .i64 p.v], .int .i64 R.2.2]) w e w'
end Go.Proofs.Ytpbkclciipmonaa.F
