/-
  Contracts of digraphs: New. Not a statement of the seat.
-/
import Derived.Test.YtakgepdlninnhaaDoorHead9
import Derived.Deep.RegionHeld3
import Derived.Carry
namespace Go.Proofs.YtakgepdlninnhaaDoor.Gr
open Go.ChangeShapes Go.WideShapes Go.ChangeAt Go.RowKit Base Ro F Dl Ln
def roomL (n : Int) : Nat := (min (max n 0) 4096).toNat
theorem roomL_le (n : Int) : roomL n ≤ 4096 := by unfold roomL; omega
def nilL : Value := .slice none 0 0
theorem madeL (n : Nat) : madeCells #[.slice none 0 0] n = ((List.range n).map (fun _ => nilL)).toArray := by
  unfold madeCells nilL
  apply Array.ext_getElem?
  intro k
  simp
  by_cases h : k < n
  · simp [h, Nat.mod_one]
  · simp [h]
theorem canK_zero (l : List Nat) : canK (fun _ _ => 0) l = [] := by
  unfold canK
  rw [List.flatMap_eq_nil_iff]
  intro n _
  unfold entK
  rw [if_pos (by simp [bitsOf])]
def zeroC : Bool → Nat → Nat → Nat → Int := fun _ _ _ _ => 0
theorem drew_heap (z : World) : z.drew.heap = z.heap := rfl
end Go.Proofs.YtakgepdlninnhaaDoor.Gr
