/-
  Contracts of small functions, several texts laid into one. Not a statement of the seat.
-/
import Derived.WalkKit
import Derived.Laws.BitsAllLaws
namespace Go.Proofs.YtakgepdlninnhaaDoor.Bits
open Go.RowKit
/-- The k-th word of V. -/
def wrd (V k : Nat) : Nat := (V >>> (64 * k)) % 2 ^ 64
theorem wrd_lt (V k : Nat) : wrd V k < 18446744073709551616 := Nat.mod_lt _ (by decide)
theorem wrd_testBit (V k j : Nat) : (wrd V k).testBit j = (decide (j < 64) && V.testBit (64 * k + j)) := by
  unfold wrd
  rw [Nat.testBit_mod_two_pow, Nat.testBit_shiftRight]
def wordsOf (n V : Nat) : Array Value := (Array.range ((n + 63) / 64)).map fun k => .int .u64 (wrd V k : Nat)
theorem size_wordsOf (n V : Nat) : (wordsOf n V).size = (n + 63) / 64 := by simp [wordsOf]
theorem wordsOf_get {n V k : Nat} (h : k < (n + 63) / 64) : (wordsOf n V)[k]? = some (.int .u64 (wrd V k : Nat)) := by
  unfold wordsOf
  rw [Array.getElem?_map, Array.getElem?_range, if_pos h]
  rfl
theorem wrd_xor (V i k : Nat) : wrd (V ^^^ 2 ^ i) k = if k = i / 64 then wrd V k ^^^ 2 ^ (i % 64) else wrd V k := by
  apply Nat.eq_of_testBit_eq
  intro j
  split
  · rename_i h
    subst h
    rw [wrd_testBit, Nat.testBit_xor, Nat.testBit_xor, wrd_testBit, Nat.testBit_two_pow, Nat.testBit_two_pow]
    by_cases hj : j < 64
    · have e : decide (i = 64 * (i / 64) + j) = decide (i % 64 = j) := by rw [Bool.eq_iff_iff, decide_eq_true_iff, decide_eq_true_iff]; omega
      rw [e]; simp [hj]
    · have e : decide (i % 64 = j) = false := by rw [decide_eq_false_iff_not]; omega
      rw [e]; simp [hj]
  · rename_i h
    rw [wrd_testBit, Nat.testBit_xor, wrd_testBit, Nat.testBit_two_pow]
    by_cases hj : j < 64
    · have e : decide (i = 64 * k + j) = false := by rw [decide_eq_false_iff_not]; omega
      rw [e]; simp
    · simp [hj]
theorem wordsOf_set (n V i : Nat) : (wordsOf n V).setIfInBounds (i / 64) (.int .u64 (wrd (V ^^^ 2 ^ i) (i / 64) : Nat)) = wordsOf n (V ^^^ 2 ^ i) := by
  apply Array.ext_getElem?
  intro k
  rw [Array.getElem?_setIfInBounds]
  by_cases hk : k < (n + 63) / 64
  · rw [wordsOf_get hk, wordsOf_get hk]
    by_cases e : i / 64 = k
    · rw [if_pos e, if_pos (by rw [size_wordsOf]; omega), e]
    · rw [if_neg e, wrd_xor, if_neg (fun h => e h.symm)]
  · have h1 : (wordsOf n V)[k]? = none := Array.getElem?_eq_none (by rw [size_wordsOf]; omega)
    have h2 : (wordsOf n (V ^^^ 2 ^ i))[k]? = none := Array.getElem?_eq_none (by rw [size_wordsOf]; omega)
    rw [h1, h2]
    split
    · rw [if_neg (by rw [size_wordsOf]; omega)]
    · rfl
theorem i64_and63 (n : Nat) : bits .and .i64 (n : Int) 63 = ((n % 64 : Nat) : Int) := by
  have h63 : (BitVec.ofInt 64 63).toNat = 2 ^ 6 - 1 := by decide
  have key : (BitVec.ofInt 64 (n : Int) &&& BitVec.ofInt 64 63).toNat = ((n : Int) % ((2 ^ 64 : Nat) : Int)).toNat % 2 ^ 6 := by
    rw [BitVec.toNat_and, BitVec.toNat_ofInt, h63, Nat.and_two_pow_sub_one_eq_mod]
  show IntKind.i64.wrap ((BitVec.ofInt 64 (n : Int) &&& BitVec.ofInt 64 63).toNat : Nat) = _
  rw [key, IntKind.wrap_i64]
  omega
theorem u64_and1 (a : Nat) (h : a < 18446744073709551616) : bits .and .u64 (a : Int) 1 = ((a % 2 : Nat) : Int) := by
  have := u64_and_nat a 1 h (by decide)
  rw [Nat.and_one_is_mod] at this
  exact this
theorem testBit_div (a i : Nat) : (a / 2 ^ i % 2 == 1) = a.testBit i := by
  rw [Nat.testBit_eq_decide_div_mod_eq]
  by_cases h : a / 2 ^ i % 2 = 1 <;> simp [h]
theorem hasBit (V i : Nat) : (bits .and .u64 ((wrd V (i / 64) : Nat) / 2 ^ (i % 64) : Int) 1 == 1) = V.testBit i := by
  have h := wrd_lt V (i / 64)
  have e : ((wrd V (i / 64) : Nat) / 2 ^ (i % 64) : Int) = ((wrd V (i / 64) / 2 ^ (i % 64) : Nat) : Int) := by
    rw [Int.natCast_ediv, Int.natCast_pow]; rfl
  rw [e, u64_and1 _ (Nat.lt_of_le_of_lt (Nat.div_le_self _ _) h)]
  have e2 : (((wrd V (i / 64) / 2 ^ (i % 64) % 2 : Nat) : Int) == 1) = (wrd V (i / 64) / 2 ^ (i % 64) % 2 == 1) := by
    rw [Bool.eq_iff_iff, beq_iff_eq, beq_iff_eq]; omega
  rw [e2, testBit_div, wrd_testBit]
  have h64 : i % 64 < 64 := Nat.mod_lt _ (by decide)
  rw [decide_eq_true h64, show 64 * (i / 64) + i % 64 = i by omega]
  rfl
theorem xorBit (V i : Nat) : bits .xor .u64 (wrd V (i / 64) : Nat) (2 ^ (i % 64) : Int) = ((wrd (V ^^^ 2 ^ i) (i / 64) : Nat) : Int) := by
  have h64 : i % 64 < 64 := Nat.mod_lt _ (by decide)
  have hp : 2 ^ (i % 64) < 18446744073709551616 := Nat.pow_lt_pow_right (a := 2) (n := 64) (by decide) h64
  have e : (2 ^ (i % 64) : Int) = ((2 ^ (i % 64) : Nat) : Int) := by rw [Int.natCast_pow]; rfl
  rw [e, bits_xor_u64_nat _ _ (wrd_lt _ _) hp, wrd_xor, if_pos rfl]
theorem wrapBit (i : Nat) : IntKind.u64.wrap (2 ^ (i % 64)) = 2 ^ (i % 64) := by
  have h64 : i % 64 < 64 := Nat.mod_lt _ (by decide)
  have hp : 2 ^ (i % 64) < 18446744073709551616 := Nat.pow_lt_pow_right (a := 2) (n := 64) (by decide) h64
  have e : (2 ^ (i % 64) : Int) = ((2 ^ (i % 64) : Nat) : Int) := by rw [Int.natCast_pow]; rfl
  rw [e, IntKind.wrap_u64]
  generalize 2 ^ (i % 64) = q at hp
  omega
theorem xor_lt {V n i : Nat} (hV : V < 2 ^ n) (hi : i < n) : V ^^^ 2 ^ i < 2 ^ n := Nat.xor_lt_two_pow hV (Nat.pow_lt_pow_right (by decide) hi)
end Go.Proofs.YtakgepdlninnhaaDoor.Bits
namespace Go.Proofs.YtakgepdlninnhaaDoor.Bits
/-- How many of x's lowest m bits are set. -/
def pc : Nat → Nat → Nat
  | 0, _ => 0
  | m + 1, x => x % 2 + pc m (x / 2)
theorem pc_succ (m x : Nat) : pc (m + 1) x = x % 2 + pc m (x / 2) := rfl
theorem pc_le (m : Nat) : ∀ x, pc m x ≤ m := by
  induction m with
  | zero => intro x; simp [pc]
  | succ m ih => intro x; have := ih (x / 2); rw [pc_succ]; omega
theorem pc_zero (m : Nat) : pc m 0 = 0 := by
  induction m with
  | zero => rfl
  | succ m ih => simp [pc, ih]
theorem pc_add (m k : Nat) : ∀ x, pc (m + k) x = pc m (x % 2 ^ m) + pc k (x / 2 ^ m) := by
  induction m with
  | zero => intro x; simp [pc]
  | succ m ih =>
    intro x
    rw [show m + 1 + k = (m + k) + 1 by omega, pc_succ, pc_succ, ih (x / 2)]
    have h1 : x % 2 ^ (m + 1) % 2 = x % 2 := by rw [Nat.pow_succ, Nat.mul_comm, Nat.mod_mul_right_mod]
    have h2 : x % 2 ^ (m + 1) / 2 = x / 2 % 2 ^ m := by rw [Nat.pow_succ, Nat.mul_comm, Nat.mod_mul_right_div_self]
    have h3 : x / 2 / 2 ^ m = x / 2 ^ (m + 1) := by rw [Nat.div_div_eq_div_mul, Nat.pow_succ, Nat.mul_comm]
    rw [h1, h2, h3]
    omega
def m55 : Nat → Nat
  | 0 => 0
  | k + 1 => 85 + 256 * m55 k
def m33 : Nat → Nat
  | 0 => 0
  | k + 1 => 51 + 256 * m33 k
def m0f : Nat → Nat
  | 0 => 0
  | k + 1 => 15 + 256 * m0f k
def f1 (k x : Nat) : Nat := (x / 2 &&& m55 k) + (x &&& m55 k)
def f2 (k x : Nat) : Nat := (x / 4 &&& m33 k) + (x &&& m33 k)
def f3 (k x : Nat) : Nat := (x / 16 + x) &&& m0f k
theorem and_split {a c u v : Nat} (ha : a < 256) (hc : c < 256) : (a + 256 * u) &&& (c + 256 * v) = (a &&& c) + 256 * (u &&& v) := by
  have hac : a &&& c < 2 ^ 8 := Nat.and_lt_two_pow _ hc
  rw [show a + 256 * u = 2 ^ 8 * u + a by omega, show c + 256 * v = 2 ^ 8 * v + c by omega, show (a &&& c) + 256 * (u &&& v) = 2 ^ 8 * (u &&& v) + (a &&& c) by omega]
  apply Nat.eq_of_testBit_eq
  intro j
  rw [Nat.testBit_and, Nat.testBit_two_pow_mul_add _ ha, Nat.testBit_two_pow_mul_add _ hc, Nat.testBit_two_pow_mul_add _ hac]
  split
  · rw [Nat.testBit_and]
  · rw [Nat.testBit_and]
theorem d1 : ∀ a, a < 256 → ∀ r, r < 2 → (a / 2 + 128 * r) &&& 85 = a / 2 &&& 85 := by decide +kernel
theorem d2 : ∀ a, a < 256 → ∀ r, r < 4 → (a / 4 + 64 * r) &&& 51 = a / 4 &&& 51 := by decide +kernel
theorem d3 : ∀ a, a < 69 → ∀ r, r < 5 → (a / 16 + 16 * r + a) &&& 15 = (a / 16 + a) &&& 15 := by decide +kernel
theorem f1_succ {k a u : Nat} (ha : a < 256) : f1 (k + 1) (a + 256 * u) = f1 1 a + 256 * f1 k u := by
  unfold f1
  have e : (a + 256 * u) / 2 = (a / 2 + 128 * (u % 2)) + 256 * (u / 2) := by omega
  rw [e, m55, and_split (by omega) (by omega), and_split ha (by omega), d1 a ha _ (Nat.mod_lt _ (by omega))]
  rw [show m55 1 = 85 from rfl]
  omega
theorem f2_succ {k a u : Nat} (ha : a < 256) : f2 (k + 1) (a + 256 * u) = f2 1 a + 256 * f2 k u := by
  unfold f2
  have e : (a + 256 * u) / 4 = (a / 4 + 64 * (u % 4)) + 256 * (u / 4) := by omega
  rw [e, m33, and_split (by omega) (by omega), and_split ha (by omega), d2 a ha _ (Nat.mod_lt _ (by omega))]
  rw [show m33 1 = 51 from rfl]
  omega
theorem f3_succ {k a u : Nat} (ha : a < 69) (hu : u % 16 < 5) : f3 (k + 1) (a + 256 * u) = f3 1 a + 256 * f3 k u := by
  unfold f3
  have e : (a + 256 * u) / 16 + (a + 256 * u) = (a / 16 + 16 * (u % 16) + a) + 256 * (u / 16 + u) := by omega
  rw [e, m0f, and_split (by omega) (by omega), d3 a ha _ hu, show m0f 1 = 15 from rfl]
theorem b1 : ∀ a, a < 256 → f1 1 a < 256 ∧ f2 1 (f1 1 a) < 69 ∧ f2 1 (f1 1 a) % 16 < 5 ∧ f3 1 (f2 1 (f1 1 a)) = pc 8 a := by decide +kernel
def F (k x : Nat) : Nat := f3 k (f2 k (f1 k x))
theorem f_nib (k u : Nat) : f2 k (f1 k u) % 16 < 5 := by
  cases k with
  | zero => simp [f2, m33]
  | succ k =>
    have e : u = u % 256 + 256 * (u / 256) := by omega
    have hb := b1 (u % 256) (Nat.mod_lt _ (by omega))
    rw [e, f1_succ (Nat.mod_lt _ (by omega)), f2_succ hb.1]
    omega
theorem F_succ {k a u : Nat} (ha : a < 256) : F (k + 1) (a + 256 * u) = pc 8 a + 256 * F k u := by
  have hb := b1 a ha
  unfold F
  rw [f1_succ ha, f2_succ hb.1, f3_succ hb.2.1 (f_nib k u), hb.2.2.2]
theorem F_zero (x : Nat) : F 0 x = 0 := by simp [F, f3, m0f]
theorem F_8 (x : Nat) : ∃ c0 c1 c2 c3 c4 c5 c6 c7 : Nat, c0 ≤ 8 ∧ c1 ≤ 8 ∧ c2 ≤ 8 ∧ c3 ≤ 8 ∧ c4 ≤ 8 ∧ c5 ≤ 8 ∧ c6 ≤ 8 ∧ c7 ≤ 8 ∧
    F 8 x = c0 + 256 * (c1 + 256 * (c2 + 256 * (c3 + 256 * (c4 + 256 * (c5 + 256 * (c6 + 256 * c7)))))) ∧ pc 64 x = c0 + c1 + c2 + c3 + c4 + c5 + c6 + c7 := by
  have s (k y : Nat) : F (k + 1) y = pc 8 (y % 256) + 256 * F k (y / 256) := by
    have e : y = y % 256 + 256 * (y / 256) := by omega
    have h := F_succ (k := k) (a := y % 256) (u := y / 256) (Nat.mod_lt _ (by omega))
    rw [← e] at h
    exact h
  have p (m y : Nat) : pc (8 + m) y = pc 8 (y % 256) + pc m (y / 256) := pc_add 8 m y
  refine ⟨pc 8 (x % 256), pc 8 (x / 256 % 256), pc 8 (x / 256 / 256 % 256), pc 8 (x / 256 / 256 / 256 % 256), pc 8 (x / 256 / 256 / 256 / 256 % 256), pc 8 (x / 256 / 256 / 256 / 256 / 256 % 256), pc 8 (x / 256 / 256 / 256 / 256 / 256 / 256 % 256), pc 8 (x / 256 / 256 / 256 / 256 / 256 / 256 / 256 % 256), pc_le _ _, pc_le _ _, pc_le _ _, pc_le _ _, pc_le _ _, pc_le _ _, pc_le _ _, pc_le _ _, ?_, ?_⟩
  · rw [s 7, s 6, s 5, s 4, s 3, s 2, s 1, s 0, F_zero, Nat.mul_zero, Nat.add_zero]
  · rw [show (64 : Nat) = 8 + (8 + (8 + (8 + (8 + (8 + (8 + (8 + 0))))))) from rfl, p, p, p, p, p, p, p, p]
    simp only [pc]
    omega
theorem pc_nil (x : Nat) : pc 0 x = 0 := rfl
theorem dv {a b : Nat} (h : a < 256) : (a + 256 * b) / 256 = b := by omega
theorem dm {a b : Nat} (h : a < 128) : (a + 256 * b) % 128 = a := by omega
theorem add4 (a b c d : Nat) : a + 256 * b + (c + 256 * d) = (a + c) + 256 * (b + d) := by omega
theorem div2 (z : Nat) : z / 65536 = z / 256 / 256 := by omega
theorem div4 (z : Nat) : z / 4294967296 = z / 256 / 256 / 256 / 256 := by omega
/-- Eight digits of a number to the base 256. -/
def dig (c0 c1 c2 c3 c4 c5 c6 c7 : Nat) : Nat := c0 + 256 * (c1 + 256 * (c2 + 256 * (c3 + 256 * (c4 + 256 * (c5 + 256 * (c6 + 256 * c7))))))
theorem dig_div {c0 c1 c2 c3 c4 c5 c6 c7 : Nat} (h : c0 < 256) : dig c0 c1 c2 c3 c4 c5 c6 c7 / 256 = dig c1 c2 c3 c4 c5 c6 c7 0 := by
  unfold dig
  rw [dv h, Nat.mul_zero, Nat.add_zero]
theorem dig_add (a0 a1 a2 a3 a4 a5 a6 a7 b0 b1 b2 b3 b4 b5 b6 b7 : Nat) : dig a0 a1 a2 a3 a4 a5 a6 a7 + dig b0 b1 b2 b3 b4 b5 b6 b7 = dig (a0 + b0) (a1 + b1) (a2 + b2) (a3 + b3) (a4 + b4) (a5 + b5) (a6 + b6) (a7 + b7) := by
  unfold dig
  simp only [add4]
theorem dig_mod {c0 c1 c2 c3 c4 c5 c6 c7 : Nat} (h : c0 < 128) : dig c0 c1 c2 c3 c4 c5 c6 c7 % 128 = c0 := by
  unfold dig
  exact dm h
theorem fold_sum (c0 c1 c2 c3 c4 c5 c6 c7 : Nat) (h0 : c0 ≤ 8) (h1 : c1 ≤ 8) (h2 : c2 ≤ 8) (h3 : c3 ≤ 8) (h4 : c4 ≤ 8) (h5 : c5 ≤ 8) (h6 : c6 ≤ 8) (h7 : c7 ≤ 8) (y y4 y5 y6 : Nat)
    (hy : y = dig c0 c1 c2 c3 c4 c5 c6 c7) (e4 : y4 = y + y / 256) (e5 : y5 = y4 + y4 / 65536) (e6 : y6 = y5 + y5 / 4294967296) :
    y6 % 128 = c0 + c1 + c2 + c3 + c4 + c5 + c6 + c7 := by
  rw [hy, dig_div (by omega), dig_add] at e4
  rw [e4, div2, dig_div (by omega), dig_div (by omega), dig_add] at e5
  rw [e5, div4, dig_div (by omega), dig_div (by omega), dig_div (by omega), dig_div (by omega), dig_add] at e6
  rw [e6, dig_mod (by omega)]
  omega
theorem le_55 : m55 8 = 6148914691236517205 := by decide
theorem le_33 : m33 8 = 3689348814741910323 := by decide
theorem le_0f : m0f 8 = 1085102592571150095 := by decide
/-- What the steps of the sum by halves come to, one by one. -/
theorem pop_steps (x a b c d e : Nat) (ha : a = (x / 2 &&& 6148914691236517205) + (x &&& 6148914691236517205)) (hb : b = (a / 4 &&& 3689348814741910323) + (a &&& 3689348814741910323))
    (hc : c = (b / 16 + b) &&& 1085102592571150095) (hd : d = c + c / 256) (he : e = d + d / 65536) : (e + e / 4294967296) % 128 = pc 64 x := by
  obtain ⟨c0, c1, c2, c3, c4, c5, c6, c7, g0, g1, g2, g3, g4, g5, g6, g7, hF, hp⟩ := F_8 x
  have hcF : c = F 8 x := by rw [hc, hb, ha]; unfold F f3 f2 f1; rw [le_55, le_33, le_0f]
  rw [hp]
  exact fold_sum c0 c1 c2 c3 c4 c5 c6 c7 g0 g1 g2 g3 g4 g5 g6 g7 c d e _ (hcF.trans hF) hd he rfl
attribute [irreducible] pc
end Go.Proofs.YtakgepdlninnhaaDoor.Bits
