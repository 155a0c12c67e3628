/-
  List of a row, as a list of ints. Not a statement of the seat.
-/
import Derived.Test.YtakgepdlninnhaaDoorRow7
import Derived.Test.YtakgepdlninnhaaDoorLst
namespace Go.Proofs.YtakgepdlninnhaaDoor.Bits
open Go.ChangeShapes Go.WideShapes Go.ChangeAt Go.RowKit Base
/-- The places of V below n, as ints. -/
def rowInts (n V : Nat) : List Int := (placesTo V n).map fun (j : Nat) => (j : Int)
theorem rowInts_len (n V : Nat) : (rowInts n V).length ≤ n := by
  unfold rowInts; rw [List.length_map]; exact placesTo_len V n
theorem own_vals {B : Nat} {w : World} {v : Value} {xs : List Nat} (h : w.ownsRow B 3 1 v xs.length (vals xs)) : Lst.OwnI B w v (xs.map fun (j : Nat) => (j : Int)) := by
  unfold Lst.OwnI
  rw [List.length_map, List.map_map]
  exact h
theorem rowList_any (b g n V : Nat) (w : World) (h : RowAt w b g n V) (hT : TabAt 0 Lib.deBruijn64tab w) (hg : 0 < w.heap.size) :
    Calls Tryd.prog 33 #[.pointer (some ⟨b, 0, none⟩)] w fun e w' => (∃ v, e = .returned v ∧ Lst.OwnI w.heap.size w' v (rowInts n V)) ∧ Below w.heap.size w w' :=
  (list_any b g n V w h hT hg).mono fun _ _ ⟨⟨v, h1, h2, _⟩, h4⟩ => ⟨⟨v, h1, own_vals h2⟩, h4⟩
end Go.Proofs.YtakgepdlninnhaaDoor.Bits
