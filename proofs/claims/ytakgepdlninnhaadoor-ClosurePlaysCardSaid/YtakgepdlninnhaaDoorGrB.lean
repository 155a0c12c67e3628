/-
  Bits of a mask: asked for in three ways, told alike. Not a statement of the seat.
-/
import Derived.Test.YtakgepdlninnhaaDoorHead10
import Derived.Test.YtakgepdlninnhaaDoorHead12
import Derived.Test.YtakgepdlninnhaaDoorHead30
namespace Go.Proofs.YtakgepdlninnhaaDoor.Gr
open Go.ChangeShapes Go.WideShapes Go.ChangeAt Go.RowKit Base Ro F Dl Ln
theorem and_zero (a b : Int) : bits .and .i64 a b = 0 ↔ (a % 18446744073709551616).toNat &&& (b % 18446744073709551616).toNat = 0 := by
  have key : (BitVec.ofInt 64 a &&& BitVec.ofInt 64 b).toNat = (a % 18446744073709551616).toNat &&& (b % 18446744073709551616).toNat := by
    rw [BitVec.toNat_and, BitVec.toNat_ofInt, BitVec.toNat_ofInt]
    rfl
  have hlt : (a % 18446744073709551616).toNat &&& (b % 18446744073709551616).toNat < 18446744073709551616 := Nat.lt_of_le_of_lt Nat.and_le_left (by omega)
  show IntKind.i64.wrap ((BitVec.ofInt 64 a &&& BitVec.ofInt 64 b).toNat : Nat) = 0 ↔ _
  rw [key, IntKind.wrap_i64]
  generalize (a % 18446744073709551616).toNat &&& (b % 18446744073709551616).toNat = x at hlt ⊢
  omega
theorem and_pow_zero (x k : Nat) : x &&& 2 ^ k = 0 ↔ x.testBit k = false := by
  constructor
  · intro h
    have : (x &&& 2 ^ k).testBit k = false := by rw [h, Nat.zero_testBit]
    rw [Nat.testBit_and, Nat.testBit_two_pow, decide_eq_true rfl, Bool.and_true] at this
    exact this
  · intro h
    apply Nat.eq_of_testBit_eq
    intro j
    rw [Nat.testBit_and, Nat.testBit_two_pow, Nat.zero_testBit]
    by_cases e : k = j
    · rw [← e, h]; rfl
    · rw [decide_eq_false e, Bool.and_false]
/-- A bit of a number, by division. -/
theorem bit_div (a : Int) (k : Nat) (hk : k < 64) : ((a % 18446744073709551616).toNat).testBit k = decide (a / 2 ^ k % 2 = 1) := by
  rw [Nat.testBit_eq_decide_div_mod_eq]
  rw [decide_eq_decide]
  have h64 : (18446744073709551616 : Int) = 2 ^ k * 2 ^ (64 - k) := by rw [← Int.pow_add, show k + (64 - k) = 64 by omega]; rfl
  have hp : (0 : Int) < 2 ^ k := Int.pow_pos (by decide)
  obtain ⟨j, hj⟩ : ∃ j, 64 - k = j + 1 := ⟨63 - k, by omega⟩
  have e : a % 18446744073709551616 / 2 ^ k % 2 = a / 2 ^ k % 2 := by
    rw [show a % 18446744073709551616 = a - 18446744073709551616 * (a / 18446744073709551616) from Int.emod_def _ _, h64, hj, Int.pow_succ]
    have e1 : a - 2 ^ k * (2 ^ j * 2) * (a / (2 ^ k * (2 ^ j * 2))) = a + 2 ^ k * (-(2 ^ j * 2 * (a / (2 ^ k * (2 ^ j * 2))))) := by
      rw [Int.mul_assoc (2 ^ k), Int.mul_neg, ← Int.sub_eq_add_neg]
    rw [e1, Int.add_mul_ediv_left _ _ (by omega)]
    generalize a / (2 ^ k * (2 ^ j * 2)) = z
    have e2 : (2 : Int) ^ j * 2 * z = 2 * (2 ^ j * z) := by rw [Int.mul_comm (2 ^ j) 2, Int.mul_assoc]
    rw [e2]
    omega
  have hn : 0 ≤ a % 18446744073709551616 := Int.emod_nonneg _ (by decide)
  generalize a % 18446744073709551616 = r at e hn
  obtain ⟨m, rfl⟩ := Int.eq_ofNat_of_zero_le hn
  rw [← e, Int.toNat_natCast]
  have e3 : ((m : Int) / 2 ^ k) = ((m / 2 ^ k : Nat) : Int) := by rw [Int.natCast_ediv, Int.natCast_pow]; rfl
  rw [e3]
  omega
theorem pow_mod (k : Nat) (hk : k < 4) : ((2 : Int) ^ k % 18446744073709551616).toNat = 2 ^ k := by
  match k, hk with
  | 0, _ => rfl
  | 1, _ => rfl
  | 2, _ => rfl
  | 3, _ => rfl
theorem rbit_div (mask : Int) (k : Nat) (hk : k < 4) : rbit mask (k : Int) = decide (mask / 2 ^ k % 2 = 1) := by
  unfold rbit
  rw [Int.toNat_natCast, ← bit_div mask k (by omega)]
  have := and_zero mask (2 ^ k)
  rw [pow_mod k hk, and_pow_zero] at this
  by_cases h : bits .and .i64 mask (2 ^ k) = 0
  · rw [h, this.1 h]; rfl
  · have hb : (bits .and .i64 mask (2 ^ k) == 0) = false := by rw [beq_eq_false_iff_ne]; exact h
    rw [hb]
    cases ht : (mask % 18446744073709551616).toNat.testBit k with
    | true => rfl
    | false => exact absurd (this.2 ht) h
theorem mbit_rbit (mask : Int) (k : Nat) (hk : k < 4) : mbit mask k = rbit mask (k : Int) := by
  rw [rbit_div mask k hk]
  unfold mbit
  have h := and_zero (mask / 2 ^ k) 1
  rw [show ((1 : Int) % 18446744073709551616).toNat = 2 ^ 0 from rfl, and_pow_zero, bit_div _ 0 (by omega)] at h
  rw [show mask / 2 ^ k / 2 ^ 0 = mask / 2 ^ k by rw [Int.pow_zero, Int.ediv_one]] at h
  by_cases hb : mask / 2 ^ k % 2 = 1
  · rw [decide_eq_true hb] at h ⊢
    have : bits .and .i64 (mask / 2 ^ k) 1 ≠ 0 := fun e => by have := h.1 e; cases this
    have hz : (bits .and .i64 (mask / 2 ^ k) 1 == 0) = false := by rw [beq_eq_false_iff_ne]; exact this
    rw [hz]; rfl
  · rw [decide_eq_false hb] at h ⊢
    rw [h.2 rfl]; rfl
def bitsN (f : Nat → Int) : Nat := (if 0 < f 0 then 1 else 0) + (if 0 < f 1 then 2 else 0) + (if 0 < f 2 then 4 else 0) + (if 0 < f 3 then 8 else 0)
theorem bitsN_int (f : Nat → Int) : bitsOf f = (bitsN f : Int) := by
  unfold bitsOf bitsN
  by_cases h0 : 0 < f 0 <;> by_cases h1 : 0 < f 1 <;> by_cases h2 : 0 < f 2 <;> by_cases h3 : 0 < f 3 <;> simp [h0, h1, h2, h3]
theorem bitsN_lt (f : Nat → Int) : bitsN f < 16 := by
  unfold bitsN
  repeat' split
  all_goals omega
theorem bitsN_bit (f : Nat → Int) (k : Nat) : (bitsN f).testBit k = (decide (k < 4) && decide (0 < f k)) := by
  by_cases hk : k < 4
  · rw [decide_eq_true hk, Bool.true_and]
    unfold bitsN
    match k, hk with
    | 0, _ => by_cases h0 : 0 < f 0 <;> by_cases h1 : 0 < f 1 <;> by_cases h2 : 0 < f 2 <;> by_cases h3 : 0 < f 3 <;> simp [h0, h1, h2, h3] <;> decide
    | 1, _ => by_cases h0 : 0 < f 0 <;> by_cases h1 : 0 < f 1 <;> by_cases h2 : 0 < f 2 <;> by_cases h3 : 0 < f 3 <;> simp [h0, h1, h2, h3] <;> decide
    | 2, _ => by_cases h0 : 0 < f 0 <;> by_cases h1 : 0 < f 1 <;> by_cases h2 : 0 < f 2 <;> by_cases h3 : 0 < f 3 <;> simp [h0, h1, h2, h3] <;> decide
    | 3, _ => by_cases h0 : 0 < f 0 <;> by_cases h1 : 0 < f 1 <;> by_cases h2 : 0 < f 2 <;> by_cases h3 : 0 < f 3 <;> simp [h0, h1, h2, h3] <;> decide
  · rw [decide_eq_false hk, Bool.false_and]
    exact Nat.testBit_lt_two_pow (Nat.lt_of_lt_of_le (bitsN_lt f) (Nat.pow_le_pow_right (n := 2) (i := 4) (by decide) (by omega)))
/-- A link is told just if a kind of the mask has a count. -/
theorem keep_iff (f : Nat → Int) (mask : Int) : bits .and .i64 (bitsOf f) mask ≠ 0 ↔ ∃ k, k < 4 ∧ 0 < f k ∧ rbit mask (k : Int) = true := by
  rw [Ne, and_zero, bitsN_int]
  have hB := bitsN_lt f
  have e : ((bitsN f : Int) % 18446744073709551616).toNat = bitsN f := by omega
  rw [e]
  constructor
  · intro h
    obtain ⟨k, hk⟩ := Nat.exists_testBit_of_ne_zero h
    rw [Nat.testBit_and, bitsN_bit, Bool.and_eq_true, Bool.and_eq_true, decide_eq_true_iff, decide_eq_true_iff] at hk
    refine ⟨k, hk.1.1, hk.1.2, ?_⟩
    rw [rbit_div mask k hk.1.1, ← bit_div mask k (by omega)]
    exact hk.2
  · rintro ⟨k, hk, hf, hm⟩ h
    have : (bitsN f &&& (mask % 18446744073709551616).toNat).testBit k = true := by
      rw [rbit_div mask k hk, ← bit_div mask k (by omega)] at hm
      rw [Nat.testBit_and, bitsN_bit, decide_eq_true hk, decide_eq_true hf, hm]; rfl
    rw [h, Nat.zero_testBit] at this
    cases this
end Go.Proofs.YtakgepdlninnhaaDoor.Gr
