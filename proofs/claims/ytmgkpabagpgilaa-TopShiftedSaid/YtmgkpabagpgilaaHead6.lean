/-
  Contracts of small functions, several texts laid into one. Not a statement of the seat.
-/
import Derived.Test.YtmgkpabagpgilaaTxMath
import Derived.Test.YtmgkpabagpgilaaHead1
import Derived.Test.YtmgkpabagpgilaaOprBox
import Derived.Test.YtmgkpabagpgilaaLstAp
import Derived.Test.YtmgkpabagpgilaaHead5
namespace Go.Proofs.Ytmgkpabagpgilaa.Tx
open Go.ChangeShapes Go.WideShapes Go.ChangeAt Go.RowKit Base F Lst
end Go.Proofs.Ytmgkpabagpgilaa.Tx
namespace Go.Proofs.Ytmgkpabagpgilaa.Tx
open Go.ChangeShapes Go.WideShapes Go.ChangeAt Go.RowKit Base F Lst Go.Lib
def idB (x : Int) : Bool := decide (1 ≤ x ∧ x ≤ 1048575)
theorem oprs_take {base g o n c c' k : Nat} {w : World} {l : List Opr} (h : Oprs base w (.slice (some ⟨g, o, none⟩) n c) l) (hk : k < l.length) : Oprs base w (.slice (some ⟨g, o, none⟩) k c') (l.take k) := by
  have hlen : (l.take k).length = k := by rw [List.length_take]; omega
  rcases h with ⟨⟨p, c2, _⟩, hz⟩ | ⟨g1, o1, c1, hv, h0, h1, h2, h3⟩
  · rw [hz] at hk; cases hk
  · injection hv with e1 e2 e3
    injection e1 with e1
    injection e1 with e1 e4
    subst e1 e4
    refine .inr ⟨g, o, c', by rw [hlen], h0, h1, by omega, fun j hj => ?_⟩
    rw [hlen] at hj
    have := h3 j (by omega)
    have hg : (l.take k).getD j Opr.zero = l.getD j Opr.zero := by
      rw [List.getD_eq_getElem?_getD, List.getD_eq_getElem?_getD, List.getElem?_take, if_pos hj]
    rw [hg]
    exact this
end Go.Proofs.Ytmgkpabagpgilaa.Tx
