/-
  Contracts of rows' words: word, places, window. Not a statement of the seat.
-/
import Derived.Test.YtoakpmbiplmpbaaDoorRow1
import Derived.LoopTactic
namespace Go.Proofs.YtoakpmbiplmpbaaDoor.Bits
open Go.ChangeShapes Go.WideShapes Go.ChangeAt Go.RowKit Base
theorem i64_and63i (n : Int) : bits .and .i64 n 63 = n % 64 := by
  have h63 : (BitVec.ofInt 64 63).toNat = 2 ^ 6 - 1 := by decide
  have key : (BitVec.ofInt 64 n &&& BitVec.ofInt 64 63).toNat = (n % ((2 ^ 64 : Nat) : Int)).toNat % 2 ^ 6 := by
    rw [BitVec.toNat_and, BitVec.toNat_ofInt, h63, Nat.and_two_pow_sub_one_eq_mod]
  show IntKind.i64.wrap ((BitVec.ofInt 64 n &&& BitVec.ofInt 64 63).toNat : Nat) = n % 64
  rw [key, IntKind.wrap_i64]
  omega
/-- The word at a place that need not be one. -/
def wordAt (V : Nat) (z : Int) : Nat := if 0 ≤ z then wrd V z.toNat else 0
def bitAt (V : Nat) (z : Int) : Bool := decide (0 ≤ z) && V.testBit z.toNat
theorem wordAt_lt (V : Nat) (z : Int) : wordAt V z < 18446744073709551616 := by
  unfold wordAt
  split
  · exact wrd_lt _ _
  · decide
theorem wordAt_testBit (V : Nat) (z : Int) (j : Nat) (hj : j < 64) : (wordAt V z).testBit j = bitAt V (64 * z + j) := by
  unfold wordAt bitAt
  by_cases h : 0 ≤ z
  · rw [if_pos h, wrd_testBit, decide_eq_true hj, decide_eq_true (by omega), show (64 * z + (j : Int)).toNat = 64 * z.toNat + j by omega]
  · rw [if_neg h, Nat.zero_testBit, decide_eq_false (by omega)]; rfl
theorem wrd_high {V n k : Nat} (hV : V < 2 ^ n) (hk : (n + 63) / 64 ≤ k) : wrd V k = 0 := by
  apply Nat.eq_of_testBit_eq
  intro j
  rw [wrd_testBit, Nat.zero_testBit, Nat.testBit_lt_two_pow (Nat.lt_of_lt_of_le hV (Nat.pow_le_pow_right (by decide) (by omega))), Bool.and_false]
set_option maxHeartbeats 1000000 in
theorem word_any (b g n V : Nat) (z : Int) (w : World) (h : RowAt w b g n V) : Calls Tryd.prog 72 #[.pointer (some ⟨b, 0, none⟩), .int .i64 z] w fun e w' => e = .returned (.int .u64 (wordAt V z : Nat)) ∧ w' = w := by
  obtain ⟨h0, h1⟩ := h.head
  have hn := h.2.2.1
  by_cases hz : 0 ≤ z
  · obtain ⟨k, rfl⟩ := Int.eq_ofNat_of_zero_le hz
    by_cases hk : k < (n + 63) / 64
    · obtain ⟨hc, _⟩ := h.word hk
      rw [show wordAt V (k : Int) = wrd V k by unfold wordAt; rw [if_pos hz, Int.toNat_natCast]]
      clear h
      go_enter Tryd.func72, Tryd.ntmps72
      go_wp2
      go_ret
      exact ⟨rfl, rfl⟩
    · rw [show wordAt V (k : Int) = 0 by unfold wordAt; rw [if_pos hz, Int.toNat_natCast, wrd_high h.2.2.2 (by omega)]]
      have hk' : (n + 63) / 64 ≤ k := by omega
      clear h hk
      go_enter Tryd.func72, Tryd.ntmps72
      go_wp2
      go_ret
      exact ⟨rfl, rfl⟩
  · rw [show wordAt V z = 0 by unfold wordAt; rw [if_neg hz]]
    clear h
    go_enter Tryd.func72, Tryd.ntmps72
    go_wp2
    go_ret
    exact ⟨rfl, rfl⟩
/-- The bits of word k that are places of a row of length n. -/
def mask (n k : Nat) : Nat := if n - 64 * k < 64 then 2 ^ (n - 64 * k) - 1 else 18446744073709551615
theorem mask_lt (n k : Nat) : mask n k < 18446744073709551616 := by
  unfold mask
  split
  · have : 2 ^ (n - 64 * k) < 2 ^ 64 := Nat.pow_lt_pow_right (by decide) (by assumption)
    omega
  · decide
theorem mask_testBit (n k j : Nat) (hj : j < 64) : (mask n k).testBit j = decide (64 * k + j < n) := by
  unfold mask
  split
  · rw [Nat.testBit_two_pow_sub_one, Bool.eq_iff_iff, decide_eq_true_iff, decide_eq_true_iff]; omega
  · rw [show (18446744073709551615 : Nat) = 2 ^ 64 - 1 from rfl, Nat.testBit_two_pow_sub_one, decide_eq_true hj, decide_eq_true (by omega)]
theorem pow_wrap (m : Nat) (h : m < 64) : IntKind.u64.wrap (2 ^ m) = 2 ^ m := by
  have := wrapBit m
  rwa [Nat.mod_eq_of_lt h] at this
set_option maxHeartbeats 1000000 in
theorem places_any (b n k : Nat) (hk : k < (n + 63) / 64) (hn : n ≤ 65536) (w : World) (h0 : w.cell? ⟨b, 0, none⟩ = some (.int .i64 n)) : Calls Tryd.prog 59 #[.pointer (some ⟨b, 0, none⟩), .int .i64 (k : Int)] w fun e w' => e = .returned (.int .u64 (mask n k : Nat)) ∧ w' = w := by
  by_cases hs : n - 64 * k < 64
  · obtain ⟨m, hm⟩ : ∃ m, n = m + 64 * k := ⟨n - 64 * k, by omega⟩
    have hp := pow_wrap m (by omega)
    have hm64 : m < 64 := by omega
    have hpos : 1 ≤ 2 ^ m := Nat.two_pow_pos m
    have hlt : 2 ^ m < 18446744073709551616 := Nat.pow_lt_pow_right (a := 2) (n := 64) (by decide) hm64
    have e1 : ((n : Int) - (k : Int) * 64) = (m : Int) := by omega
    have hr : mask n k = 2 ^ m - 1 := by unfold mask; rw [if_pos hs, show n - 64 * k = m by omega]
    rw [hr]
    have hq : IntKind.u64.wrap (2 ^ m - 1) = ((2 ^ m - 1 : Nat) : Int) := by
      have e : (2 ^ m : Int) = ((2 ^ m : Nat) : Int) := by rw [Int.natCast_pow]; rfl
      rw [e, IntKind.wrap_u64]
      generalize 2 ^ m = q at hpos hlt
      omega
    have HQ := Lib.hid hq
    clear hr hs hpos hlt hm hq
    go_enter Tryd.func59, Tryd.ntmps59
    go_wp2
    go_ret
    exact ⟨ret_int HQ.out, rfl⟩
  · have hr : mask n k = 18446744073709551615 := by unfold mask; rw [if_neg hs]
    rw [hr]
    have hs' : 64 ≤ (n : Int) - (k : Int) * 64 := by omega
    clear hr hs
    go_enter Tryd.func59, Tryd.ntmps59
    go_wp2
    go_ret
    exact ⟨rfl, rfl⟩
/-- The 64 bits from place z on. -/
def winV (V : Nat) (z : Int) : Nat := (wordAt V (z / 64) / 2 ^ (z % 64).toNat) ||| ((wordAt V (z / 64 + 1) * 2 ^ (64 - (z % 64).toNat)) % 18446744073709551616)
theorem winV_lt (V : Nat) (z : Int) : winV V z < 18446744073709551616 := by
  unfold winV
  exact Nat.or_lt_two_pow (n := 64) (Nat.lt_of_le_of_lt (Nat.div_le_self _ _) (wordAt_lt _ _)) (Nat.mod_lt _ (by decide))
theorem winV_testBit (V : Nat) (z : Int) (j : Nat) (hj : j < 64) : (winV V z).testBit j = bitAt V (z + j) := by
  unfold winV
  have hs : (z % 64).toNat < 64 := by omega
  have hz : z = 64 * (z / 64) + (z % 64).toNat := by omega
  rw [show (18446744073709551616 : Nat) = 2 ^ 64 from rfl, Nat.testBit_or, ← Nat.shiftRight_eq_div_pow, Nat.testBit_shiftRight, Nat.testBit_mod_two_pow, decide_eq_true hj, Bool.true_and, Nat.mul_comm, Nat.testBit_two_pow_mul]
  generalize (z % 64).toNat = q at hs hz
  by_cases h : q + j < 64
  · rw [wordAt_testBit _ _ _ h, decide_eq_false (by omega), Bool.false_and, Bool.or_false]
    congr 1
    omega
  · have h1 : (wordAt V (z / 64)).testBit (q + j) = false := Nat.testBit_lt_two_pow (Nat.lt_of_lt_of_le (wordAt_lt _ _) (Nat.pow_le_pow_right (n := 2) (i := 64) (by decide) (by omega)))
    rw [h1, Bool.false_or, decide_eq_true (by omega), Bool.true_and, wordAt_testBit _ _ _ (by omega)]
    congr 1
    omega
set_option maxHeartbeats 1000000 in
theorem window_any (b g n V : Nat) (z : Int) (hz1 : -9223372036854775000 ≤ z) (hz2 : z ≤ 9223372036854775000) (w : World) (h : RowAt w b g n V) : Calls Tryd.prog 58 #[.pointer (some ⟨b, 0, none⟩), .int .i64 z] w fun e w' => e = .returned (.int .u64 (winV V z : Nat)) ∧ ∃ q, w' = w.drewN q := by
  have HW : Hid (∀ y wx, RowAt wx b g n V → Calls Tryd.prog 72 #[.pointer (some ⟨b, 0, none⟩), .int .i64 y] wx fun e w' => e = .returned (.int .u64 (wordAt V y : Nat)) ∧ w' = wx) := Lib.hid fun y wx hx => word_any b g n V y wx hx
  have HR : Hid (∀ q, RowAt (w.drewN q) b g n V) := Lib.hid fun q => h.drewN q
  have HR0 := Lib.hid h
  clear h
  have e63 := i64_and63i z
  have hfin : bits .or .u64 ((wordAt V (z / 64) : Nat) / 2 ^ (z % 64).toNat : Int) (IntKind.u64.wrap ((wordAt V (z / 64 + 1) : Nat) * 2 ^ (64 - z % 64).toNat : Int)) = (winV V z : Nat) := by
    have hqn : (64 - z % 64).toNat = 64 - (z % 64).toNat := by omega
    rw [hqn]
    unfold winV
    generalize (z % 64).toNat = q
    have e1 : ((wordAt V (z / 64) : Nat) / 2 ^ q : Int) = ((wordAt V (z / 64) / 2 ^ q : Nat) : Int) := by rw [Int.natCast_ediv, Int.natCast_pow]; rfl
    have e2 : IntKind.u64.wrap ((wordAt V (z / 64 + 1) : Nat) * 2 ^ (64 - q) : Int) = ((wordAt V (z / 64 + 1) * 2 ^ (64 - q) % 18446744073709551616 : Nat) : Int) := by
      rw [IntKind.wrap_u64, Int.natCast_emod, Int.natCast_mul, Int.natCast_pow]; rfl
    rw [e1, e2, u64_or_nat _ _ (Nat.lt_of_le_of_lt (Nat.div_le_self _ _) (wordAt_lt _ _)) (Nat.mod_lt _ (by decide))]
  have HF := Lib.hid hfin
  clear hfin
  go_enter Tryd.func58, Tryd.ntmps58
  go_wp2_with fail
  go_quiet ((go_at_call 72; exact Calls.quiet_of_same (HW.out _ _ (by first | exact HR0.out | exact HR.out _))))
  go_wp2
  go_ret
  exact ⟨ret_int HF.out, _, rfl⟩
/-- The words of A up to k, of B from there on. -/
def mixOf (n A B k : Nat) : Array Value := (Array.range ((n + 63) / 64)).map fun j => .int .u64 ((if j < k then wrd A j else wrd B j : Nat) : Int)
theorem mixOf_get {n A B k j : Nat} (h : j < (n + 63) / 64) : (mixOf n A B k)[j]? = some (.int .u64 ((if j < k then wrd A j else wrd B j : Nat) : Int)) := by
  unfold mixOf
  rw [Array.getElem?_map, Array.getElem?_range, if_pos h]
  rfl
theorem mixOf_zero (n A B : Nat) : mixOf n A B 0 = wordsOf n B := by
  unfold mixOf wordsOf
  simp
theorem mixOf_all (n A B : Nat) : mixOf n A B ((n + 63) / 64) = wordsOf n A := by
  apply Array.ext_getElem?
  intro j
  by_cases h : j < (n + 63) / 64
  · rw [mixOf_get h, wordsOf_get h, if_pos h]
  · rw [Array.getElem?_eq_none (by simp [mixOf]; omega), Array.getElem?_eq_none (by rw [size_wordsOf]; omega)]
theorem mixOf_set {n A B k : Nat} (_h : k < (n + 63) / 64) : (mixOf n A B k).setIfInBounds k (.int .u64 (wrd A k : Nat)) = mixOf n A B (k + 1) := by
  apply Array.ext_getElem?
  intro j
  rw [Array.getElem?_setIfInBounds]
  have hs : (mixOf n A B k).size = (n + 63) / 64 := by simp [mixOf]
  by_cases h : j < (n + 63) / 64
  · rw [mixOf_get h, mixOf_get h]
    by_cases e : k = j
    · rw [if_pos e, if_pos (by omega), if_pos (by omega), e]
    · rw [if_neg e]
      by_cases h2 : j < k
      · rw [if_pos h2, if_pos (by omega)]
      · rw [if_neg h2, if_neg (by omega)]
  · have h1 : (mixOf n A B k)[j]? = none := Array.getElem?_eq_none (by omega)
    have h2 : (mixOf n A B (k + 1))[j]? = none := Array.getElem?_eq_none (by simp [mixOf]; omega)
    rw [h1, h2, if_neg (by omega)]
/-- A row on the way from B to A: k words are done. -/
def MixAt (w : World) (b g n A B k : Nat) : Prop :=
  w.heap[b]? = some (.cells #[.int .i64 n, .slice (some ⟨g, 0, none⟩) ((n + 63) / 64) ((n + 63) / 64)] 78) ∧ w.heap[g]? = some (.cells (mixOf n A B k) 68) ∧ n ≤ 65536
theorem MixAt.start {w : World} {b g n A B : Nat} (h : RowAt w b g n B) : MixAt w b g n A B 0 := ⟨h.1, by rw [mixOf_zero]; exact h.2.1, h.2.2.1⟩
theorem MixAt.done {w : World} {b g n A B : Nat} (h : MixAt w b g n A B ((n + 63) / 64)) (hA : A < 2 ^ n) : RowAt w b g n A := ⟨h.1, by have := h.2.1; rwa [mixOf_all] at this, h.2.2, hA⟩
theorem MixAt.ne_ {w : World} {b g n A B k : Nat} (h : MixAt w b g n A B k) : b ≠ g := by
  intro e
  have h1 := h.1
  rw [e, h.2.1] at h1
  simp at h1
theorem MixAt.head {w : World} {b g n A B k : Nat} (h : MixAt w b g n A B k) : w.cell? ⟨b, 0, none⟩ = some (.int .i64 n) ∧ w.cell? ⟨b, 1, none⟩ = some (.slice (some ⟨g, 0, none⟩) ((n + 63) / 64) ((n + 63) / 64)) := by
  simp [World.cell?, h.1]
theorem MixAt.word {w : World} {b g n A B k : Nat} (h : MixAt w b g n A B k) (hk : k < (n + 63) / 64) : w.cell? ⟨g, k, none⟩ = some (.int .u64 (wrd B k : Nat)) ∧ w.frozen? ⟨g, k, none⟩ = false := by
  have hg := h.2.1
  have hm := mixOf_get (n := n) (A := A) (B := B) (k := k) hk
  rw [if_neg (Nat.lt_irrefl k)] at hm
  refine ⟨?_, ?_⟩
  · unfold World.cell?
    rw [hg]
    simpa using hm
  · simp [World.frozen?, hg]
theorem MixAt.drewN {w : World} {b g n A B k : Nat} (h : MixAt w b g n A B k) (q : Nat) : MixAt (w.drewN q) b g n A B k := h
theorem MixAt.set_ {w : World} {b g n A B k : Nat} (h : MixAt w b g n A B k) (hk : k < (n + 63) / 64) : MixAt (w.setCell ⟨g, k, none⟩ (.int .u64 (wrd A k : Nat))) b g n A B (k + 1) := by
  refine ⟨?_, ?_, h.2.2⟩
  · rw [Below.heap_setCell _ _ _ _ h.ne_]; exact h.1
  · have hg := h.2.1
    simp only [World.setCell, Array.getElem?_modify, if_true, hg, Option.map_some]
    rw [← mixOf_set hk]
    rfl
end Go.Proofs.YtoakpmbiplmpbaaDoor.Bits
