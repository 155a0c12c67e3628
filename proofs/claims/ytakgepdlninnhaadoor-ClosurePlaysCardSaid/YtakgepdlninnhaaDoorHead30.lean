/-
  Contracts of small functions, several texts laid into one. Not a statement of the seat.
-/
import Derived.Test.YtakgepdlninnhaaDoorHead8
import Derived.Test.YtakgepdlninnhaaDoorHead11
import Derived.Test.YtakgepdlninnhaaDoorHead9
import Derived.Deep.RegionHeld3
import Derived.Carry
namespace Go.Proofs.YtakgepdlninnhaaDoor.Ln
open Go.ChangeShapes Go.WideShapes Go.ChangeAt Go.RowKit Base Ro F
def keepK (mask : Int) (x : Lk) : Bool := !(decide (bits .and .i64 x.ks mask = 0))
def ofK (ks : List Lk) (mask : Int) : List Int := (ks.filter (keepK mask)).map (·.nd)
end Go.Proofs.YtakgepdlninnhaaDoor.Ln
namespace Go.Proofs.YtakgepdlninnhaaDoor.Gr
open Go.ChangeShapes Go.WideShapes Go.ChangeAt Go.RowKit Base Ro F Dl Ln
theorem bitsOf_bd (f : Nat → Int) : 0 ≤ bitsOf f ∧ bitsOf f ≤ 15 := by
  unfold bitsOf
  refine ⟨?_, ?_⟩ <;> (repeat' split) <;> omega
theorem canK_bd (cnt : Nat → Nat → Int) {N : Nat} (hN : N ≤ 5000) (k : Nat) (hk : k < (canK cnt (List.range N)).length) : (-32768 ≤ ((canK cnt (List.range N)).getD k Lk.zero).nd ∧ ((canK cnt (List.range N)).getD k Lk.zero).nd ≤ 32767) ∧ (-32768 ≤ ((canK cnt (List.range N)).getD k Lk.zero).ks ∧ ((canK cnt (List.range N)).getD k Lk.zero).ks ≤ 32767) := by
  refine ⟨(canK_good cnt hN).2.2 k hk, ?_⟩
  have hm := List.getElem_mem hk
  obtain ⟨n, _, _, h2⟩ := canK_mem hm
  rw [List.getD_eq_getElem?_getD, List.getElem?_eq_getElem hk, Option.getD_some, h2]
  have := bitsOf_bd (cnt n)
  show -32768 ≤ bitsOf (cnt n) ∧ bitsOf (cnt n) ≤ 32767
  omega
theorem own_less {B B' : Nat} {w : World} {v : Value} {zs : List Int} (h : Lst.OwnI B w v zs) (hb : B' ≤ B) : Lst.OwnI B' w v zs := by
  refine ⟨h.1, ?_⟩
  rcases h.2 with h2 | ⟨g, cap, cur, h1, h2, h3⟩
  · exact .inl h2
  · exact .inr ⟨g, cap, cur, h1, Nat.le_trans hb h2, h3⟩
/-- The nodes on a side of one. -/
def sideL (cnt : Bool → Nat → Nat → Nat → Int) (s : Bool) (n a : Nat) (mask : Int) : List Int := ofK (canK (cnt s a) (List.range n)) mask
end Go.Proofs.YtakgepdlninnhaaDoor.Gr
namespace Go.Proofs.YtakgepdlninnhaaDoor.Gr
open Go.ChangeShapes Go.WideShapes Go.ChangeAt Go.RowKit Base Ro F Dl Ln
def roomL (n : Int) : Nat := (min (max n 0) 4096).toNat
theorem roomL_le (n : Int) : roomL n ≤ 4096 := by unfold roomL; omega
def nilL : Value := .slice none 0 0
theorem madeL (n : Nat) : madeCells #[.slice none 0 0] n = ((List.range n).map (fun _ => nilL)).toArray := by
  unfold madeCells nilL
  apply Array.ext_getElem?
  intro k
  simp
  by_cases h : k < n
  · simp [h, Nat.mod_one]
  · simp [h]
theorem canK_zero (l : List Nat) : canK (fun _ _ => 0) l = [] := by
  unfold canK
  rw [List.flatMap_eq_nil_iff]
  intro n _
  unfold entK
  rw [if_pos (by simp [bitsOf])]
def zeroC : Bool → Nat → Nat → Nat → Int := fun _ _ _ _ => 0
theorem drew_heap (z : World) : z.drew.heap = z.heap := rfl
end Go.Proofs.YtakgepdlninnhaaDoor.Gr
