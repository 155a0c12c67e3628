/-
  Contracts of small functions, several texts laid into one. Not a statement of the seat.
-/
import Derived.Test.YtakgepdlninnhaaDoorHead1
import Derived.Laws.BitsLemmas
import Derived.Test.YtakgepdlninnhaaDoorShelf
import Derived.Test.YtakgepdlninnhaaDoorLst
import Derived.Test.YtakgepdlninnhaaDoorHead22
import Derived.Deep.QuietTactic
import Derived.RegionTactic
import Derived.BigRegion
import Derived.OwnWalk
import Derived.Laws.OwnMore
namespace Go.Proofs.YtakgepdlninnhaaDoor.F
open Go.ChangeShapes Go.WideShapes Go.ChangeAt Go.RowKit Base
theorem i64_mask (a m k : Nat) (ha : a < 4611686018427387904) (hk : k ≤ 17) (hm : m = 2 ^ k) : bits .and .i64 (a : Int) ((m : Int) - 1) = ((a % m : Nat) : Int) := by
  have hp : 2 ^ k ≤ 2 ^ 17 := Nat.pow_le_pow_right (by omega) hk
  have hq : 0 < m := by rw [hm]; exact Nat.two_pow_pos k
  rw [← hm] at hp
  have h1 : (BitVec.ofInt 64 ((m : Int) - 1)).toNat = 2 ^ k - 1 := by
    rw [BitVec.toNat_ofInt, ← hm]; omega
  have h2 : (BitVec.ofInt 64 (a : Int)).toNat = a := by rw [BitVec.toNat_ofInt]; omega
  show IntKind.i64.wrap ((BitVec.ofInt 64 (a : Int) &&& BitVec.ofInt 64 ((m : Int) - 1)).toNat : Nat) = _
  rw [BitVec.toNat_and, h1, h2, Nat.and_two_pow_sub_one_eq_mod, IntKind.wrap_i64, ← hm]
  have h3 := Nat.mod_lt a hq
  generalize a % m = r at h3 ⊢
  omega
/-- The cells of a ring of N places hold xs, from place f on. -/
def Ring (cur : Array Value) (N f : Nat) (xs : List Int) : Prop := cur.size = N ∧ ∀ i, i < xs.length → cur[(f + i) % N]? = some (.int .i64 (xs.getD i 0))
theorem Ring.nil {cur : Array Value} {N : Nat} (h : cur.size = N) (f : Nat) : Ring cur N f [] := ⟨h, fun i hi => absurd hi (by simp)⟩
theorem Ring.push {cur : Array Value} {N f : Nat} {xs : List Int} (h : Ring cur N f xs) (hl : xs.length < N) (x : Int) : Ring (cur.setIfInBounds ((f + xs.length) % N) (.int .i64 x)) N f (xs ++ [x]) := by
  refine ⟨by rw [Array.size_setIfInBounds]; exact h.1, fun i hi => ?_⟩
  rw [List.length_append, List.length_singleton] at hi
  have hN : 0 < N := by omega
  rw [Array.getElem?_setIfInBounds]
  by_cases he : i = xs.length
  · subst he
    rw [if_pos rfl, if_pos (by rw [h.1]; exact Nat.mod_lt _ hN)]
    simp [List.getD_eq_getElem?_getD]
  · have hne : (f + xs.length) % N ≠ (f + i) % N := fun e => by
      have h1 := Nat.sub_mod_eq_zero_of_mod_eq e
      rw [show f + xs.length - (f + i) = xs.length - i by omega, Nat.mod_eq_of_lt (by omega)] at h1
      omega
    rw [if_neg hne, h.2 i (by omega), List.getD_eq_getElem?_getD, List.getD_eq_getElem?_getD, List.getElem?_append_left (by omega)]
theorem Ring.pop {cur : Array Value} {N f : Nat} {x : Int} {xs : List Int} (h : Ring cur N f (x :: xs)) : Ring cur N ((f + 1) % N) xs := by
  refine ⟨h.1, fun i hi => ?_⟩
  have := h.2 (i + 1) (by simp; omega)
  rw [Nat.mod_add_mod, show f + 1 + i = f + (i + 1) by omega, this]
  simp
theorem Ring.first {cur : Array Value} {N f : Nat} {x : Int} {xs : List Int} (h : Ring cur N f (x :: xs)) (hf : f < N) : cur[f]? = some (.int .i64 x) := by
  have := h.2 0 (by simp)
  rw [Nat.add_zero, Nat.mod_eq_of_lt hf] at this
  simpa using this
theorem Ring.lt {N f i : Nat} (hN : 0 < N) : (f + i) % N < N := Nat.mod_lt _ hN
/-- A cell of a block is stored into. -/
theorem heap_setCell_at {w : World} {b j : Nat} {cs : Array Value} {T : TypeId} {v : Value} (h : w.heap[b]? = some (.cells cs T)) : (w.setCell ⟨b, j, none⟩ v).heap[b]? = some (.cells (cs.setIfInBounds j v) T) := by
  simp [World.setCell, Array.getElem?_modify, h]
end Go.Proofs.YtakgepdlninnhaaDoor.F
namespace Go.Proofs.YtakgepdlninnhaaDoor.F
open Go.ChangeShapes Go.WideShapes Go.ChangeAt Go.RowKit Base
/-- What First and Pop tell. -/
def fstV (xs : List Int) : Value := .tuple #[.int .i64 (xs.headD 0), .bool (!xs.isEmpty)]
end Go.Proofs.YtakgepdlninnhaaDoor.F
