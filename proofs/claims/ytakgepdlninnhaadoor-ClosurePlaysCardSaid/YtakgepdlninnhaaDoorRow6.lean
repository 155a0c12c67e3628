/-
  A contract of Moved: a new row with all places moved. Not a statement of the seat.
-/
import Derived.Test.YtakgepdlninnhaaDoorHead16
import Derived.Deep.RegionHeld3
namespace Go.Proofs.YtakgepdlninnhaaDoor.Bits
open Go.ChangeShapes Go.WideShapes Go.ChangeAt Go.RowKit Base
/-- V's places moved up by k. -/
def movV (n V : Nat) (k : Int) : Nat := if n ≤ k ∨ k ≤ -n then 0 else if 0 ≤ k then (V * 2 ^ k.toNat) % 2 ^ n else V / 2 ^ (-k).toNat
theorem movV_testBit {n V : Nat} {k : Int} (hV : V < 2 ^ n) (i : Nat) : (movV n V k).testBit i = (decide (i < n) && bitAt V (i - k)) := by
  unfold movV bitAt
  split
  · rename_i h
    rw [Nat.zero_testBit]
    by_cases hi : i < n
    · by_cases h0 : 0 ≤ (i : Int) - k
      · have : n ≤ ((i : Int) - k).toNat := by omega
        rw [Nat.testBit_lt_two_pow (Nat.lt_of_lt_of_le hV (Nat.pow_le_pow_right (by decide) this))]
        simp
      · rw [decide_eq_false h0]; simp
    · simp [hi]
  · rename_i h
    split
    · rename_i hk
      rw [Nat.testBit_mod_two_pow, Nat.mul_comm, Nat.testBit_two_pow_mul]
      congr 1
      by_cases h1 : k.toNat ≤ i
      · rw [decide_eq_true h1, decide_eq_true (by omega), show ((i : Int) - k).toNat = i - k.toNat by omega]
      · rw [decide_eq_false h1, decide_eq_false (by omega)]; rfl
    · rename_i hk
      rw [← Nat.shiftRight_eq_div_pow, Nat.testBit_shiftRight, show decide (0 ≤ (i : Int) - k) = true from decide_eq_true (by omega), Bool.true_and, show ((i : Int) - k).toNat = (-k).toNat + i by omega]
      by_cases hi : i < n
      · rw [decide_eq_true hi, Bool.true_and]
      · rw [decide_eq_false hi, Bool.false_and, Nat.testBit_lt_two_pow (Nat.lt_of_lt_of_le hV (Nat.pow_le_pow_right (by decide) (by omega)))]
theorem movV_lt {n V : Nat} {k : Int} (hV : V < 2 ^ n) : movV n V k < 2 ^ n := by
  apply Nat.lt_pow_two_of_testBit
  intro i hi
  rw [movV_testBit hV, decide_eq_false (by omega), Bool.false_and]
theorem movV_word {n V : Nat} {k : Int} (hV : V < 2 ^ n) (a : Nat) : winV V ((a : Int) * 64 - k) &&& mask n a = wrd (movV n V k) a := by
  apply Nat.eq_of_testBit_eq
  intro j
  rw [wrd_testBit, Nat.testBit_and]
  by_cases hj : j < 64
  · rw [winV_testBit _ _ _ hj, mask_testBit _ _ _ hj, decide_eq_true hj, Bool.true_and, movV_testBit hV, Bool.and_comm, show ((64 * a + j : Nat) : Int) - k = (a : Int) * 64 - k + j by omega]
  · rw [decide_eq_false hj, Bool.false_and, Nat.testBit_lt_two_pow (Nat.lt_of_lt_of_le (winV_lt _ _) (Nat.pow_le_pow_right (n := 2) (i := 64) (by decide) (by omega))), Bool.false_and]
end Go.Proofs.YtakgepdlninnhaaDoor.Bits
