/-
  Contracts of digraphs: Next, Prev. Not a statement of the seat.
-/
import Derived.Test.YtakgepdlninnhaaDoorHead9
import Derived.Test.YtakgepdlninnhaaDoorLk8
namespace Go.Proofs.YtakgepdlninnhaaDoor.Gr
open Go.ChangeShapes Go.WideShapes Go.ChangeAt Go.RowKit Base Ro F Dl Ln
theorem bitsOf_bd (f : Nat → Int) : 0 ≤ bitsOf f ∧ bitsOf f ≤ 15 := by
  unfold bitsOf
  refine ⟨?_, ?_⟩ <;> (repeat' split) <;> omega
theorem canK_bd (cnt : Nat → Nat → Int) {N : Nat} (hN : N ≤ 5000) (k : Nat) (hk : k < (canK cnt (List.range N)).length) : (-32768 ≤ ((canK cnt (List.range N)).getD k Lk.zero).nd ∧ ((canK cnt (List.range N)).getD k Lk.zero).nd ≤ 32767) ∧ (-32768 ≤ ((canK cnt (List.range N)).getD k Lk.zero).ks ∧ ((canK cnt (List.range N)).getD k Lk.zero).ks ≤ 32767) := by
  refine ⟨(canK_good cnt hN).2.2 k hk, ?_⟩
  have hm := List.getElem_mem hk
  obtain ⟨n, _, _, h2⟩ := canK_mem hm
  rw [List.getD_eq_getElem?_getD, List.getElem?_eq_getElem hk, Option.getD_some, h2]
  have := bitsOf_bd (cnt n)
  show -32768 ≤ bitsOf (cnt n) ∧ bitsOf (cnt n) ≤ 32767
  omega
theorem own_less {B B' : Nat} {w : World} {v : Value} {zs : List Int} (h : Lst.OwnI B w v zs) (hb : B' ≤ B) : Lst.OwnI B' w v zs := by
  refine ⟨h.1, ?_⟩
  rcases h.2 with h2 | ⟨g, cap, cur, h1, h2, h3⟩
  · exact .inl h2
  · exact .inr ⟨g, cap, cur, h1, Nat.le_trans hb h2, h3⟩
/-- The nodes on a side of one. -/
def sideL (cnt : Bool → Nat → Nat → Nat → Int) (s : Bool) (n a : Nat) (mask : Int) : List Int := ofK (canK (cnt s a) (List.range n)) mask
end Go.Proofs.YtakgepdlninnhaaDoor.Gr
