/-
  Contracts of small functions, several texts laid into one. Not a statement of the seat.
-/
import Derived.Test.YtbgepeokadmemaaOrMath
import Derived.Test.YtbgepeokadmemaaMp
import Derived.Test.YtbgepeokadmemaaLstSame
import Derived.Test.YtbgepeokadmemaaHead7
namespace Go.Proofs.Ytbgepeokadmemaa.Or
open Go.ChangeShapes Go.WideShapes Go.ChangeAt Go.RowKit Base Lst
end Go.Proofs.Ytbgepeokadmemaa.Or
namespace Go.Proofs.Ytbgepeokadmemaa.Or
open Go.ChangeShapes Go.WideShapes Go.ChangeAt Go.RowKit Base Lst
/-! maps of ints to bools, to ints -/
theorem keyed : Maps.Keyed Try.prog 3 := Maps.int_keyed Try.underlying3
theorem zeroBool (w : World) : (zeroValue 4).run Try.prog w = .ok (.bool false) w := by kernel_rfl
theorem zeroInt (w : World) : (zeroValue 3).run Try.prog w = .ok (.int .i64 0) w := by kernel_rfl
/-- The ids among zs, in block b. -/
abbrev Met (w : World) (b n : Nat) (zs : List Int) : Prop := Mp.MB Try.prog 3 4 (Value.int .i64) w b n (fun y => decide (y ∈ zs))
theorem met_made {w : World} {b : Nat} (h : w.heap[b]? = some (.map #[] 0)) : Met w b 0 [] := (Mp.MB.made h).ext fun x => by simp
/-- How often each id is left, in block b. -/
abbrev Cnt (w : World) (b n : Nat) (f : Int → Int) : Prop := Mp.MI Try.prog 3 3 (Value.int .i64) w b n f
theorem cnt_made {w : World} {b : Nat} (h : w.heap[b]? = some (.map #[] 0)) : Cnt w b 0 (fun _ => 0) := Mp.MI.made h
/-- Ids of 64 bits. -/
def Bd (xs : List Int) : Prop := ∀ x ∈ xs, -9223372036854775808 ≤ x ∧ x ≤ 9223372036854775807
theorem Bd.at {xs : List Int} (h : Bd xs) (k : Nat) : -9223372036854775808 ≤ xs.getD k 0 ∧ xs.getD k 0 ≤ 9223372036854775807 := by
  rcases Nat.lt_or_ge k xs.length with hk | hk
  · rw [List.getD_eq_getElem?_getD, List.getElem?_eq_getElem hk]
    exact h _ (List.getElem_mem hk)
  · rw [List.getD_eq_getElem?_getD, List.getElem?_eq_none hk]
    simp
/-- What a call leaves that tells a bool, and makes memory. -/
def BoolNew (r : Bool) (w : World) (e : Ending) (w' : World) : Prop := e = .returned (.bool r) ∧ Below w.heap.size w w'
end Go.Proofs.Ytbgepeokadmemaa.Or
