/-
  Plain facts on numbers as rows of bits, cut into words of 64 bits. No program, no statement.
-/
import Derived.WalkKit
import Derived.Laws.BitsAllLaws
namespace Go.Proofs.YtoakpmbiplmpbaaDoor.Bits
open Go.RowKit
/-- The k-th word of V. -/
def wrd (V k : Nat) : Nat := (V >>> (64 * k)) % 2 ^ 64
theorem wrd_lt (V k : Nat) : wrd V k < 18446744073709551616 := Nat.mod_lt _ (by decide)
theorem wrd_testBit (V k j : Nat) : (wrd V k).testBit j = (decide (j < 64) && V.testBit (64 * k + j)) := by
  unfold wrd
  rw [Nat.testBit_mod_two_pow, Nat.testBit_shiftRight]
def wordsOf (n V : Nat) : Array Value := (Array.range ((n + 63) / 64)).map fun k => .int .u64 (wrd V k : Nat)
theorem size_wordsOf (n V : Nat) : (wordsOf n V).size = (n + 63) / 64 := by simp [wordsOf]
theorem wordsOf_get {n V k : Nat} (h : k < (n + 63) / 64) : (wordsOf n V)[k]? = some (.int .u64 (wrd V k : Nat)) := by
  unfold wordsOf
  rw [Array.getElem?_map, Array.getElem?_range, if_pos h]
  rfl
theorem wrd_xor (V i k : Nat) : wrd (V ^^^ 2 ^ i) k = if k = i / 64 then wrd V k ^^^ 2 ^ (i % 64) else wrd V k := by
  apply Nat.eq_of_testBit_eq
  intro j
  split
  · rename_i h
    subst h
    rw [wrd_testBit, Nat.testBit_xor, Nat.testBit_xor, wrd_testBit, Nat.testBit_two_pow, Nat.testBit_two_pow]
    by_cases hj : j < 64
    · have e : decide (i = 64 * (i / 64) + j) = decide (i % 64 = j) := by rw [Bool.eq_iff_iff, decide_eq_true_iff, decide_eq_true_iff]; omega
      rw [e]; simp [hj]
    · have e : decide (i % 64 = j) = false := by rw [decide_eq_false_iff_not]; omega
      rw [e]; simp [hj]
  · rename_i h
    rw [wrd_testBit, Nat.testBit_xor, wrd_testBit, Nat.testBit_two_pow]
    by_cases hj : j < 64
    · have e : decide (i = 64 * k + j) = false := by rw [decide_eq_false_iff_not]; omega
      rw [e]; simp
    · simp [hj]
theorem wordsOf_set (n V i : Nat) : (wordsOf n V).setIfInBounds (i / 64) (.int .u64 (wrd (V ^^^ 2 ^ i) (i / 64) : Nat)) = wordsOf n (V ^^^ 2 ^ i) := by
  apply Array.ext_getElem?
  intro k
  rw [Array.getElem?_setIfInBounds]
  by_cases hk : k < (n + 63) / 64
  · rw [wordsOf_get hk, wordsOf_get hk]
    by_cases e : i / 64 = k
    · rw [if_pos e, if_pos (by rw [size_wordsOf]; omega), e]
    · rw [if_neg e, wrd_xor, if_neg (fun h => e h.symm)]
  · have h1 : (wordsOf n V)[k]? = none := Array.getElem?_eq_none (by rw [size_wordsOf]; omega)
    have h2 : (wordsOf n (V ^^^ 2 ^ i))[k]? = none := Array.getElem?_eq_none (by rw [size_wordsOf]; omega)
    rw [h1, h2]
    split
    · rw [if_neg (by rw [size_wordsOf]; omega)]
    · rfl
theorem i64_and63 (n : Nat) : bits .and .i64 (n : Int) 63 = ((n % 64 : Nat) : Int) := by
  have h63 : (BitVec.ofInt 64 63).toNat = 2 ^ 6 - 1 := by decide
  have key : (BitVec.ofInt 64 (n : Int) &&& BitVec.ofInt 64 63).toNat = ((n : Int) % ((2 ^ 64 : Nat) : Int)).toNat % 2 ^ 6 := by
    rw [BitVec.toNat_and, BitVec.toNat_ofInt, h63, Nat.and_two_pow_sub_one_eq_mod]
  show IntKind.i64.wrap ((BitVec.ofInt 64 (n : Int) &&& BitVec.ofInt 64 63).toNat : Nat) = _
  rw [key, IntKind.wrap_i64]
  omega
theorem u64_and1 (a : Nat) (h : a < 18446744073709551616) : bits .and .u64 (a : Int) 1 = ((a % 2 : Nat) : Int) := by
  have := u64_and_nat a 1 h (by decide)
  rw [Nat.and_one_is_mod] at this
  exact this
theorem testBit_div (a i : Nat) : (a / 2 ^ i % 2 == 1) = a.testBit i := by
  rw [Nat.testBit_eq_decide_div_mod_eq]
  by_cases h : a / 2 ^ i % 2 = 1 <;> simp [h]
theorem hasBit (V i : Nat) : (bits .and .u64 ((wrd V (i / 64) : Nat) / 2 ^ (i % 64) : Int) 1 == 1) = V.testBit i := by
  have h := wrd_lt V (i / 64)
  have e : ((wrd V (i / 64) : Nat) / 2 ^ (i % 64) : Int) = ((wrd V (i / 64) / 2 ^ (i % 64) : Nat) : Int) := by
    rw [Int.natCast_ediv, Int.natCast_pow]; rfl
  rw [e, u64_and1 _ (Nat.lt_of_le_of_lt (Nat.div_le_self _ _) h)]
  have e2 : (((wrd V (i / 64) / 2 ^ (i % 64) % 2 : Nat) : Int) == 1) = (wrd V (i / 64) / 2 ^ (i % 64) % 2 == 1) := by
    rw [Bool.eq_iff_iff, beq_iff_eq, beq_iff_eq]; omega
  rw [e2, testBit_div, wrd_testBit]
  have h64 : i % 64 < 64 := Nat.mod_lt _ (by decide)
  rw [decide_eq_true h64, show 64 * (i / 64) + i % 64 = i by omega]
  rfl
theorem xorBit (V i : Nat) : bits .xor .u64 (wrd V (i / 64) : Nat) (2 ^ (i % 64) : Int) = ((wrd (V ^^^ 2 ^ i) (i / 64) : Nat) : Int) := by
  have h64 : i % 64 < 64 := Nat.mod_lt _ (by decide)
  have hp : 2 ^ (i % 64) < 18446744073709551616 := Nat.pow_lt_pow_right (a := 2) (n := 64) (by decide) h64
  have e : (2 ^ (i % 64) : Int) = ((2 ^ (i % 64) : Nat) : Int) := by rw [Int.natCast_pow]; rfl
  rw [e, bits_xor_u64_nat _ _ (wrd_lt _ _) hp, wrd_xor, if_pos rfl]
theorem wrapBit (i : Nat) : IntKind.u64.wrap (2 ^ (i % 64)) = 2 ^ (i % 64) := by
  have h64 : i % 64 < 64 := Nat.mod_lt _ (by decide)
  have hp : 2 ^ (i % 64) < 18446744073709551616 := Nat.pow_lt_pow_right (a := 2) (n := 64) (by decide) h64
  have e : (2 ^ (i % 64) : Int) = ((2 ^ (i % 64) : Nat) : Int) := by rw [Int.natCast_pow]; rfl
  rw [e, IntKind.wrap_u64]
  generalize 2 ^ (i % 64) = q at hp
  omega
theorem xor_lt {V n i : Nat} (hV : V < 2 ^ n) (hi : i < n) : V ^^^ 2 ^ i < 2 ^ n := Nat.xor_lt_two_pow hV (Nat.pow_lt_pow_right (by decide) hi)
end Go.Proofs.YtoakpmbiplmpbaaDoor.Bits
