/-
  The document's Weight, Order, Has of histories. Not a statement of the seat.
-/
import Derived.Test.YtmgkpabagpgilaaHead4
import Derived.Test.YtmgkpabagpgilaaHead6
import Derived.Lib.QuietBelow
namespace Go.Proofs.Ytmgkpabagpgilaa.Hi
open Go.ChangeShapes Go.WideShapes Go.ChangeAt Go.RowKit Base F Tx
/-- The order of a key. -/
def ordL : List Ordr → Int → List Int
  | [], _ => []
  | o :: l, k => if o.key = k then o.txs else ordL l k
theorem ordL_some : ∀ {l : List Ordr} {id : Int} {k : Nat}, k < l.length → (l.getD k Ordr.zero).key = id → (∀ j, j < k → (l.getD j Ordr.zero).key ≠ id) → ordL l id = (l.getD k Ordr.zero).txs
  | t :: l, id, 0, _, he, _ => by simp at he; simp [ordL, he]
  | t :: l, id, k + 1, hk, he, hn => by
    have h0 := hn 0 (by omega)
    simp at h0
    rw [ordL, if_neg h0]
    exact ordL_some (by simpa using hk) (by simpa using he) (fun j hj => by simpa using hn (j + 1) (by omega))
theorem ordL_none : ∀ {l : List Ordr} {id : Int}, (∀ j, j < l.length → (l.getD j Ordr.zero).key ≠ id) → ordL l id = []
  | [], _, _ => rfl
  | t :: l, id, hn => by
    have h0 := hn 0 (by simp)
    simp at h0
    rw [ordL, if_neg h0]
    exact ordL_none (fun j hj => by simpa using hn (j + 1) (by simpa using hj))
/-- What Order tells. -/
def IdsP (l : List Int) (w : World) (e : Ending) (w' : World) : Prop := ∃ s, e = .returned s ∧ IdsV w' s l ∧ Aft w w'
end Go.Proofs.Ytmgkpabagpgilaa.Hi
