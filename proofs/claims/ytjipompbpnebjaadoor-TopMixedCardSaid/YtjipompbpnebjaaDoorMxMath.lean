/-
  Plain facts on mixes: each step is undone by another one. Not a statement of the seat.
-/
import Derived.Test.YtjipompbpnebjaaDoorMxNum
namespace Go.Proofs.YtjipompbpnebjaaDoor.Mx
theorem foldN_bit (x n i : Nat) : (foldN x n).testBit i = (x.testBit i ^^ x.testBit (n + i)) := by
  unfold foldN
  rw [Nat.testBit_xor, Nat.testBit_div_two_pow, Nat.add_comm i n]
theorem far_bit {x i : Nat} (h : x < 18446744073709551616) (hi : 64 ≤ i) : x.testBit i = false :=
  Nat.testBit_lt_two_pow (Nat.lt_of_lt_of_le (show x < 2 ^ 64 from h) (Nat.pow_le_pow_right (by decide) hi))
theorem fold32 {x : Nat} (h : x < 18446744073709551616) : foldN (foldN x 32) 32 = x := by
  apply Nat.eq_of_testBit_eq
  intro i
  rw [foldN_bit, foldN_bit, foldN_bit, far_bit h (show 64 ≤ 32 + (32 + i) by omega)]
  cases x.testBit i <;> cases x.testBit (32 + i) <;> rfl
/-- What undoes a fold by 29. -/
def unf29 (y : Nat) : Nat := y ^^^ (y / 2 ^ 29) ^^^ (y / 2 ^ 58)
theorem unf29_bit (y i : Nat) : (unf29 y).testBit i = ((y.testBit i ^^ y.testBit (29 + i)) ^^ y.testBit (58 + i)) := by
  unfold unf29
  rw [Nat.testBit_xor, Nat.testBit_xor, Nat.testBit_div_two_pow, Nat.testBit_div_two_pow, Nat.add_comm i 29, Nat.add_comm i 58]
theorem unf29_lt {y : Nat} (h : y < 18446744073709551616) : unf29 y < 18446744073709551616 :=
  Nat.xor_lt_two_pow (n := 64) (Nat.xor_lt_two_pow (n := 64) h (Nat.lt_of_le_of_lt (Nat.div_le_self _ _) h)) (Nat.lt_of_le_of_lt (Nat.div_le_self _ _) h)
theorem unf_fold {x : Nat} (h : x < 18446744073709551616) : unf29 (foldN x 29) = x := by
  apply Nat.eq_of_testBit_eq
  intro i
  rw [unf29_bit, foldN_bit, foldN_bit, foldN_bit, show 29 + (29 + i) = 58 + i by omega, far_bit h (show 64 ≤ 29 + (58 + i) by omega)]
  cases x.testBit i <;> cases x.testBit (29 + i) <;> cases x.testBit (58 + i) <;> rfl
theorem fold_unf {y : Nat} (h : y < 18446744073709551616) : foldN (unf29 y) 29 = y := by
  apply Nat.eq_of_testBit_eq
  intro i
  rw [foldN_bit, unf29_bit, unf29_bit, show 29 + (29 + i) = 58 + i by omega, far_bit h (show 64 ≤ 58 + (29 + i) by omega)]
  cases y.testBit i <;> cases y.testBit (29 + i) <;> cases y.testBit (58 + i) <;> rfl
theorem mulN_back {x a b : Nat} (h : x < 18446744073709551616) (hab : a * b % 18446744073709551616 = 1) : mulN (mulN x a) b = x := by
  unfold mulN
  rw [Nat.mod_mul_mod, Nat.mul_assoc, Nat.mul_mod, hab, Nat.mul_one, Nat.mod_mod, Nat.mod_eq_of_lt h]
/-- The number whose mix y is. -/
def unmixN (y : Nat) : Nat := foldN (mulN (unf29 (mulN (foldN y 32) 10636502746458383055)) 14982988110149298331) 32
theorem unmixN_lt (y : Nat) : unmixN y < 18446744073709551616 := foldN_lt (mulN_lt _ _)
theorem unmix_mix {x : Nat} (h : x < 18446744073709551616) : unmixN (mixN x) = x := by
  rw [mixN_eq]
  unfold unmixN
  rw [fold32 (mulN_lt _ _), mulN_back (foldN_lt (mulN_lt _ _)) (by decide +kernel), unf_fold (mulN_lt _ _), mulN_back (foldN_lt h) (by decide +kernel), fold32 h]
theorem mix_unmix {y : Nat} (h : y < 18446744073709551616) : mixN (unmixN y) = y := by
  rw [mixN_eq]
  unfold unmixN
  rw [fold32 (mulN_lt _ _), mulN_back (unf29_lt (mulN_lt _ _)) (by decide +kernel), fold_unf (mulN_lt _ _), mulN_back (foldN_lt h) (by decide +kernel), fold32 h]
theorem mix_inj {x y : Nat} (hx : x < 18446744073709551616) (hy : y < 18446744073709551616) (h : mixN x = mixN y) : x = y := by
  rw [← unmix_mix hx, h, unmix_mix hy]
attribute [irreducible] unmixN
end Go.Proofs.YtjipompbpnebjaaDoor.Mx
