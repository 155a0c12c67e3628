/-
  Contracts of small functions, several texts laid into one. Not a statement of the seat.
-/
import Derived.Test.YtakgepdlninnhaaDoorRow1
import Derived.LoopTactic
import Derived.Test.YtakgepdlninnhaaDoorShelf
import Derived.Deep.QuietTactic
import Derived.BigQuiet
namespace Go.Proofs.YtakgepdlninnhaaDoor.Bits
open Go.ChangeShapes Go.WideShapes Go.ChangeAt Go.RowKit Base
theorem i64_and63i (n : Int) : bits .and .i64 n 63 = n % 64 := by
  have h63 : (BitVec.ofInt 64 63).toNat = 2 ^ 6 - 1 := by decide
  have key : (BitVec.ofInt 64 n &&& BitVec.ofInt 64 63).toNat = (n % ((2 ^ 64 : Nat) : Int)).toNat % 2 ^ 6 := by
    rw [BitVec.toNat_and, BitVec.toNat_ofInt, h63, Nat.and_two_pow_sub_one_eq_mod]
  show IntKind.i64.wrap ((BitVec.ofInt 64 n &&& BitVec.ofInt 64 63).toNat : Nat) = n % 64
  rw [key, IntKind.wrap_i64]
  omega
/-- The word at a place that need not be one. -/
def wordAt (V : Nat) (z : Int) : Nat := if 0 ≤ z then wrd V z.toNat else 0
def bitAt (V : Nat) (z : Int) : Bool := decide (0 ≤ z) && V.testBit z.toNat
theorem wordAt_lt (V : Nat) (z : Int) : wordAt V z < 18446744073709551616 := by
  unfold wordAt
  split
  · exact wrd_lt _ _
  · decide
theorem wordAt_testBit (V : Nat) (z : Int) (j : Nat) (hj : j < 64) : (wordAt V z).testBit j = bitAt V (64 * z + j) := by
  unfold wordAt bitAt
  by_cases h : 0 ≤ z
  · rw [if_pos h, wrd_testBit, decide_eq_true hj, decide_eq_true (by omega), show (64 * z + (j : Int)).toNat = 64 * z.toNat + j by omega]
  · rw [if_neg h, Nat.zero_testBit, decide_eq_false (by omega)]; rfl
theorem wrd_high {V n k : Nat} (hV : V < 2 ^ n) (hk : (n + 63) / 64 ≤ k) : wrd V k = 0 := by
  apply Nat.eq_of_testBit_eq
  intro j
  rw [wrd_testBit, Nat.zero_testBit, Nat.testBit_lt_two_pow (Nat.lt_of_lt_of_le hV (Nat.pow_le_pow_right (by decide) (by omega))), Bool.and_false]
set_option maxHeartbeats 1000000 in
theorem word_any (b g n V : Nat) (z : Int) (w : World) (h : RowAt w b g n V) : Calls Tryd.prog 67 #[.pointer (some ⟨b, 0, none⟩), .int .i64 z] w fun e w' => e = .returned (.int .u64 (wordAt V z : Nat)) ∧ w' = w := by
  obtain ⟨h0, h1⟩ := h.head
  have hn := h.2.2.1
  by_cases hz : 0 ≤ z
  · obtain ⟨k, rfl⟩ := Int.eq_ofNat_of_zero_le hz
    by_cases hk : k < (n + 63) / 64
    · obtain ⟨hc, _⟩ := h.word hk
      rw [show wordAt V (k : Int) = wrd V k by unfold wordAt; rw [if_pos hz, Int.toNat_natCast]]
      clear h
      go_enter Tryd.func67, Tryd.ntmps67
      go_wp2
      go_ret
      exact ⟨rfl, rfl⟩
    · rw [show wordAt V (k : Int) = 0 by unfold wordAt; rw [if_pos hz, Int.toNat_natCast, wrd_high h.2.2.2 (by omega)]]
      have hk' : (n + 63) / 64 ≤ k := by omega
      clear h hk
      go_enter Tryd.func67, Tryd.ntmps67
      go_wp2
      go_ret
      exact ⟨rfl, rfl⟩
  · rw [show wordAt V z = 0 by unfold wordAt; rw [if_neg hz]]
    clear h
    go_enter Tryd.func67, Tryd.ntmps67
    go_wp2
    go_ret
    exact ⟨rfl, rfl⟩
/-- The bits of word k that are places of a row of length n. -/
def mask (n k : Nat) : Nat := if n - 64 * k < 64 then 2 ^ (n - 64 * k) - 1 else 18446744073709551615
theorem mask_lt (n k : Nat) : mask n k < 18446744073709551616 := by
  unfold mask
  split
  · have : 2 ^ (n - 64 * k) < 2 ^ 64 := Nat.pow_lt_pow_right (by decide) (by assumption)
    omega
  · decide
theorem mask_testBit (n k j : Nat) (hj : j < 64) : (mask n k).testBit j = decide (64 * k + j < n) := by
  unfold mask
  split
  · rw [Nat.testBit_two_pow_sub_one, Bool.eq_iff_iff, decide_eq_true_iff, decide_eq_true_iff]; omega
  · rw [show (18446744073709551615 : Nat) = 2 ^ 64 - 1 from rfl, Nat.testBit_two_pow_sub_one, decide_eq_true hj, decide_eq_true (by omega)]
theorem pow_wrap (m : Nat) (h : m < 64) : IntKind.u64.wrap (2 ^ m) = 2 ^ m := by
  have := wrapBit m
  rwa [Nat.mod_eq_of_lt h] at this
set_option maxHeartbeats 1000000 in
theorem places_any (b n k : Nat) (hk : k < (n + 63) / 64) (hn : n ≤ 65536) (w : World) (h0 : w.cell? ⟨b, 0, none⟩ = some (.int .i64 n)) : Calls Tryd.prog 68 #[.pointer (some ⟨b, 0, none⟩), .int .i64 (k : Int)] w fun e w' => e = .returned (.int .u64 (mask n k : Nat)) ∧ w' = w := by
  by_cases hs : n - 64 * k < 64
  · obtain ⟨m, hm⟩ : ∃ m, n = m + 64 * k := ⟨n - 64 * k, by omega⟩
    have hp := pow_wrap m (by omega)
    have hm64 : m < 64 := by omega
    have hpos : 1 ≤ 2 ^ m := Nat.two_pow_pos m
    have hlt : 2 ^ m < 18446744073709551616 := Nat.pow_lt_pow_right (a := 2) (n := 64) (by decide) hm64
    have e1 : ((n : Int) - (k : Int) * 64) = (m : Int) := by omega
    have hr : mask n k = 2 ^ m - 1 := by unfold mask; rw [if_pos hs, show n - 64 * k = m by omega]
    rw [hr]
    have hq : IntKind.u64.wrap (2 ^ m - 1) = ((2 ^ m - 1 : Nat) : Int) := by
      have e : (2 ^ m : Int) = ((2 ^ m : Nat) : Int) := by rw [Int.natCast_pow]; rfl
      rw [e, IntKind.wrap_u64]
      generalize 2 ^ m = q at hpos hlt
      omega
    have HQ := Lib.hid hq
    clear hr hs hpos hlt hm hq
    go_enter Tryd.func68, Tryd.ntmps68
    go_wp2
    go_ret
    exact ⟨ret_int HQ.out, rfl⟩
  · have hr : mask n k = 18446744073709551615 := by unfold mask; rw [if_neg hs]
    rw [hr]
    have hs' : 64 ≤ (n : Int) - (k : Int) * 64 := by omega
    clear hr hs
    go_enter Tryd.func68, Tryd.ntmps68
    go_wp2
    go_ret
    exact ⟨rfl, rfl⟩
/-- The 64 bits from place z on. -/
def winV (V : Nat) (z : Int) : Nat := (wordAt V (z / 64) / 2 ^ (z % 64).toNat) ||| ((wordAt V (z / 64 + 1) * 2 ^ (64 - (z % 64).toNat)) % 18446744073709551616)
theorem winV_lt (V : Nat) (z : Int) : winV V z < 18446744073709551616 := by
  unfold winV
  exact Nat.or_lt_two_pow (n := 64) (Nat.lt_of_le_of_lt (Nat.div_le_self _ _) (wordAt_lt _ _)) (Nat.mod_lt _ (by decide))
theorem winV_testBit (V : Nat) (z : Int) (j : Nat) (hj : j < 64) : (winV V z).testBit j = bitAt V (z + j) := by
  unfold winV
  have hs : (z % 64).toNat < 64 := by omega
  have hz : z = 64 * (z / 64) + (z % 64).toNat := by omega
  rw [show (18446744073709551616 : Nat) = 2 ^ 64 from rfl, Nat.testBit_or, ← Nat.shiftRight_eq_div_pow, Nat.testBit_shiftRight, Nat.testBit_mod_two_pow, decide_eq_true hj, Bool.true_and, Nat.mul_comm, Nat.testBit_two_pow_mul]
  generalize (z % 64).toNat = q at hs hz
  by_cases h : q + j < 64
  · rw [wordAt_testBit _ _ _ h, decide_eq_false (by omega), Bool.false_and, Bool.or_false]
    congr 1
    omega
  · have h1 : (wordAt V (z / 64)).testBit (q + j) = false := Nat.testBit_lt_two_pow (Nat.lt_of_lt_of_le (wordAt_lt _ _) (Nat.pow_le_pow_right (n := 2) (i := 64) (by decide) (by omega)))
    rw [h1, Bool.false_or, decide_eq_true (by omega), Bool.true_and, wordAt_testBit _ _ _ (by omega)]
    congr 1
    omega
/-- The words of A up to k, of B from there on. -/
def mixOf (n A B k : Nat) : Array Value := (Array.range ((n + 63) / 64)).map fun j => .int .u64 ((if j < k then wrd A j else wrd B j : Nat) : Int)
theorem mixOf_get {n A B k j : Nat} (h : j < (n + 63) / 64) : (mixOf n A B k)[j]? = some (.int .u64 ((if j < k then wrd A j else wrd B j : Nat) : Int)) := by
  unfold mixOf
  rw [Array.getElem?_map, Array.getElem?_range, if_pos h]
  rfl
theorem mixOf_zero (n A B : Nat) : mixOf n A B 0 = wordsOf n B := by
  unfold mixOf wordsOf
  simp
theorem mixOf_all (n A B : Nat) : mixOf n A B ((n + 63) / 64) = wordsOf n A := by
  apply Array.ext_getElem?
  intro j
  by_cases h : j < (n + 63) / 64
  · rw [mixOf_get h, wordsOf_get h, if_pos h]
  · rw [Array.getElem?_eq_none (by simp [mixOf]; omega), Array.getElem?_eq_none (by rw [size_wordsOf]; omega)]
theorem mixOf_set {n A B k : Nat} (_h : k < (n + 63) / 64) : (mixOf n A B k).setIfInBounds k (.int .u64 (wrd A k : Nat)) = mixOf n A B (k + 1) := by
  apply Array.ext_getElem?
  intro j
  rw [Array.getElem?_setIfInBounds]
  have hs : (mixOf n A B k).size = (n + 63) / 64 := by simp [mixOf]
  by_cases h : j < (n + 63) / 64
  · rw [mixOf_get h, mixOf_get h]
    by_cases e : k = j
    · rw [if_pos e, if_pos (by omega), if_pos (by omega), e]
    · rw [if_neg e]
      by_cases h2 : j < k
      · rw [if_pos h2, if_pos (by omega)]
      · rw [if_neg h2, if_neg (by omega)]
  · have h1 : (mixOf n A B k)[j]? = none := Array.getElem?_eq_none (by omega)
    have h2 : (mixOf n A B (k + 1))[j]? = none := Array.getElem?_eq_none (by simp [mixOf]; omega)
    rw [h1, h2, if_neg (by omega)]
/-- A row on the way from B to A: k words are done. -/
def MixAt (w : World) (b g n A B k : Nat) : Prop :=
  w.heap[b]? = some (.cells #[.int .i64 n, .slice (some ⟨g, 0, none⟩) ((n + 63) / 64) ((n + 63) / 64)] 75) ∧ w.heap[g]? = some (.cells (mixOf n A B k) 86) ∧ n ≤ 65536
theorem MixAt.start {w : World} {b g n A B : Nat} (h : RowAt w b g n B) : MixAt w b g n A B 0 := ⟨h.1, by rw [mixOf_zero]; exact h.2.1, h.2.2.1⟩
theorem MixAt.done {w : World} {b g n A B : Nat} (h : MixAt w b g n A B ((n + 63) / 64)) (hA : A < 2 ^ n) : RowAt w b g n A := ⟨h.1, by have := h.2.1; rwa [mixOf_all] at this, h.2.2, hA⟩
theorem MixAt.ne_ {w : World} {b g n A B k : Nat} (h : MixAt w b g n A B k) : b ≠ g := by
  intro e
  have h1 := h.1
  rw [e, h.2.1] at h1
  simp at h1
theorem MixAt.head {w : World} {b g n A B k : Nat} (h : MixAt w b g n A B k) : w.cell? ⟨b, 0, none⟩ = some (.int .i64 n) ∧ w.cell? ⟨b, 1, none⟩ = some (.slice (some ⟨g, 0, none⟩) ((n + 63) / 64) ((n + 63) / 64)) := by
  simp [World.cell?, h.1]
theorem MixAt.word {w : World} {b g n A B k : Nat} (h : MixAt w b g n A B k) (hk : k < (n + 63) / 64) : w.cell? ⟨g, k, none⟩ = some (.int .u64 (wrd B k : Nat)) ∧ w.frozen? ⟨g, k, none⟩ = false := by
  have hg := h.2.1
  have hm := mixOf_get (n := n) (A := A) (B := B) (k := k) hk
  rw [if_neg (Nat.lt_irrefl k)] at hm
  refine ⟨?_, ?_⟩
  · unfold World.cell?
    rw [hg]
    simpa using hm
  · simp [World.frozen?, hg]
theorem MixAt.drewN {w : World} {b g n A B k : Nat} (h : MixAt w b g n A B k) (q : Nat) : MixAt (w.drewN q) b g n A B k := h
theorem MixAt.set_ {w : World} {b g n A B k : Nat} (h : MixAt w b g n A B k) (hk : k < (n + 63) / 64) : MixAt (w.setCell ⟨g, k, none⟩ (.int .u64 (wrd A k : Nat))) b g n A B (k + 1) := by
  refine ⟨?_, ?_, h.2.2⟩
  · rw [Below.heap_setCell _ _ _ _ h.ne_]; exact h.1
  · have hg := h.2.1
    simp only [World.setCell, Array.getElem?_modify, if_true, hg, Option.map_some]
    rw [← mixOf_set hk]
    rfl
end Go.Proofs.YtakgepdlninnhaaDoor.Bits
namespace Go.Proofs.YtakgepdlninnhaaDoor.Bits
open Go.ChangeShapes Go.WideShapes Go.ChangeAt Go.RowKit Base
theorem ctz_spec {x : Nat} (h0 : x ≠ 0) (h : x < 18446744073709551616) : x.testBit (Lib.ctz 64 x) = true ∧ (∀ m, m < Lib.ctz 64 x → x.testBit m = false) ∧ Lib.ctz 64 x < 64 := by
  obtain ⟨m, hm, hlt⟩ := Lib.ctzFrom_spec 64 x (Nat.pos_of_ne_zero h0) h
  have e : Lib.ctz 64 x = Lib.ctzFrom 64 x := by unfold Lib.ctz; rw [if_neg h0]
  rw [e]
  generalize Lib.ctzFrom 64 x = t at hm hlt
  subst hm
  refine ⟨?_, fun j hj => ?_, hlt⟩
  · rw [Nat.testBit_two_pow_mul]
    simp
  · rw [Nat.testBit_two_pow_mul]
    simp [Nat.not_le.2 hj]
/-- r is the least place from i on that is set; -1: there is none. -/
def NextP (n V i : Nat) (r : Int) : Prop :=
  (r = -1 ∧ ∀ j, i ≤ j → j < n → V.testBit j = false) ∨ ∃ j : Nat, r = j ∧ i ≤ j ∧ j < n ∧ V.testBit j = true ∧ ∀ m, i ≤ m → m < j → V.testBit m = false
theorem bit_lt {V n j : Nat} (hV : V < 2 ^ n) (h : V.testBit j = true) : j < n := by
  rcases Nat.lt_or_ge j n with h1 | h1
  · exact h1
  · rw [Nat.testBit_lt_two_pow (Nat.lt_of_lt_of_le hV (Nat.pow_le_pow_right (by decide) h1))] at h; cases h
theorem next_word {V n i k : Nat} (hV : V < 2 ^ n) (hik : i ≤ 64 * k) (hno : ∀ j, i ≤ j → j < 64 * k → V.testBit j = false) (h0 : wrd V k ≠ 0) : NextP n V i ((64 * k + Lib.ctz 64 (wrd V k) : Nat) : Int) := by
  obtain ⟨h1, h2, h3⟩ := ctz_spec h0 (wrd_lt V k)
  generalize Lib.ctz 64 (wrd V k) = t at h1 h2 h3
  rw [wrd_testBit, decide_eq_true h3, Bool.true_and] at h1
  refine .inr ⟨_, rfl, by omega, bit_lt hV h1, h1, fun m hm hlt => ?_⟩
  by_cases hk : m < 64 * k
  · exact hno m hm hk
  · have := h2 (m - 64 * k) (by omega)
    rw [wrd_testBit, decide_eq_true (by omega), Bool.true_and, show 64 * k + (m - 64 * k) = m by omega] at this
    exact this
theorem word_none {V k : Nat} (h0 : wrd V k = 0) (j : Nat) (h1 : 64 * k ≤ j) (h2 : j < 64 * (k + 1)) : V.testBit j = false := by
  have := wrd_testBit V k (j - 64 * k)
  rw [h0, Nat.zero_testBit, decide_eq_true (by omega), Bool.true_and, show 64 * k + (j - 64 * k) = j by omega] at this
  exact this.symm
theorem wrd_and (V O k : Nat) : wrd (V &&& O) k = wrd V k &&& wrd O k := by
  apply Nat.eq_of_testBit_eq
  intro j
  rw [wrd_testBit, Nat.testBit_and, Nat.testBit_and, wrd_testBit, wrd_testBit]
  by_cases hj : j < 64 <;> simp [hj]
theorem and_lt {n V O : Nat} (hV : V < 2 ^ n) : V &&& O < 2 ^ n := Nat.lt_of_le_of_lt Nat.and_le_left hV
/-- The word in which i stands, from i on. -/
def cutW (V i : Nat) : Nat := wrd V (i / 64) / 2 ^ (i % 64) * 2 ^ (i % 64)
theorem cutW_testBit (V i m : Nat) : (cutW V i).testBit m = (decide (i % 64 ≤ m ∧ m < 64) && V.testBit (64 * (i / 64) + m)) := by
  unfold cutW
  rw [Nat.mul_comm, Nat.testBit_two_pow_mul, ← Nat.shiftRight_eq_div_pow, Nat.testBit_shiftRight, wrd_testBit]
  by_cases h : i % 64 ≤ m
  · rw [show i % 64 + (m - i % 64) = m by omega]; simp [h]
  · simp [h]
theorem cutW_lt (V i : Nat) : cutW V i < 18446744073709551616 := Nat.lt_of_le_of_lt (Nat.div_mul_le_self _ _) (wrd_lt _ _)
theorem next_cut {n V i : Nat} (hV : V < 2 ^ n) (h0 : cutW V i ≠ 0) : NextP n V i ((64 * (i / 64) + Lib.ctz 64 (cutW V i) : Nat) : Int) := by
  obtain ⟨h1, h2, h3⟩ := ctz_spec h0 (cutW_lt V i)
  generalize Lib.ctz 64 (cutW V i) = t at h1 h2 h3
  rw [cutW_testBit] at h1
  simp only [Bool.and_eq_true, decide_eq_true_iff] at h1
  refine .inr ⟨_, rfl, by omega, bit_lt hV h1.2, h1.2, fun m hm hlt => ?_⟩
  have := h2 (m - 64 * (i / 64)) (by omega)
  rw [cutW_testBit, decide_eq_true (by omega), Bool.true_and, show 64 * (i / 64) + (m - 64 * (i / 64)) = m by omega] at this
  exact this
theorem cut_none {V i : Nat} (h0 : cutW V i = 0) (j : Nat) (h1 : i ≤ j) (h2 : j < 64 * (i / 64 + 1)) : V.testBit j = false := by
  have := cutW_testBit V i (j - 64 * (i / 64))
  rw [h0, Nat.zero_testBit, decide_eq_true (by omega), Bool.true_and, show 64 * (i / 64) + (j - 64 * (i / 64)) = j by omega] at this
  exact this.symm
theorem tz_any (x : Nat) (hx : x < 18446744073709551616) (w : World) (hT : TabAt 0 Lib.deBruijn64tab w) : Calls Tryd.prog 69 #[.int .u64 (x : Int)] w fun e w' => e = .returned (.int .i64 (Lib.ctz 64 x : Nat)) ∧ w' = w :=
  Any7.bits_TrailingZeros64 Tryd.tz64 x hx w fun _ => hT
/-- What is known of a word x at k: the first place of V from i on stands in it; or there is none up to its end. -/
def WrdP (n V i k x : Nat) : Prop := (x < 18446744073709551616 ∧ Lib.ctz 64 x ≤ 64) ∧ (x ≠ 0 → NextP n V i ((64 * k + Lib.ctz 64 x : Nat) : Int)) ∧ (x = 0 → ∀ j, i ≤ j → j < 64 * (k + 1) → V.testBit j = false)
theorem ctz_le (x : Nat) (h : x < 18446744073709551616) : Lib.ctz 64 x ≤ 64 := by
  by_cases h0 : x = 0
  · rw [h0]; decide
  · exact Nat.le_of_lt (ctz_spec h0 h).2.2
theorem wrdP_cut {n V i : Nat} (hV : V < 2 ^ n) : WrdP n V i (i / 64) (cutW V i) := ⟨⟨cutW_lt V i, ctz_le _ (cutW_lt V i)⟩, next_cut hV, cut_none⟩
theorem wrdP_next {n V i k : Nat} (hV : V < 2 ^ n) (h : WrdP n V i k 0) (hk : i ≤ 64 * (k + 1)) : WrdP n V i (k + 1) (wrd V (k + 1)) :=
  ⟨⟨wrd_lt V _, ctz_le _ (wrd_lt V _)⟩, fun h0 => next_word hV hk (h.2.2 rfl) h0, fun h0 j h1 h2 => by
    by_cases h3 : j < 64 * (k + 1)
    · exact h.2.2 rfl j h1 h3
    · exact word_none h0 j (by omega) h2⟩
theorem row_bits {V O k : Nat} : bits .and .u64 (wrd V k : Nat) (wrd O k : Nat) = ((wrd (V &&& O) k : Nat) : Int) := by
  rw [u64_and_nat _ _ (wrd_lt _ _) (wrd_lt _ _), wrd_and]
theorem quiet_more {P : Program} {f : FuncId} {args : Array Value} {w : World} {q x : Nat} {v : Value} (h : ∀ a, Calls P f args (w.drewN a) fun e w' => e = .returned v ∧ w' = w.drewN a) : Calls P f args (w.drewN (q + x)) fun e w'' => e = .returned v ∧ ∃ n, w'' = w.drewN (q + n) :=
  (h _).mono fun _ _ ⟨a, b⟩ => ⟨a, x, b⟩
set_option maxHeartbeats 4000000 in
theorem both_in (b g n V bo go no O i : Nat) (z : Int) (hz : max z 0 = (i : Int)) (hi : i < n) (w : World) (h : RowAt w b g n V) (ho : RowAt w bo go no O) (hT : TabAt 0 Lib.deBruijn64tab w) :
    Calls Tryd.prog 59 #[.pointer (some ⟨b, 0, none⟩), .pointer (some ⟨bo, 0, none⟩), .int .i64 z] w fun e w' => (∃ r, e = .returned (.int .i64 r) ∧ NextP n (V &&& O) i r) ∧ ∃ q, w' = w.drewN q := by
  obtain ⟨h0, h1⟩ := h.head
  have hn := h.2.2.1
  have hx := (h.word (k := i / 64) (by omega)).1
  have e63 := i64_and63 i
  have HTZ : Hid (∀ (x q : Nat), x < 18446744073709551616 → Calls Tryd.prog 69 #[.int .u64 (x : Int)] (w.drewN q) fun e w' => e = .returned (.int .i64 (Lib.ctz 64 x : Nat)) ∧ w' = w.drewN q) := Lib.hid fun x q hx => tz_any x hx (w.drewN q) hT
  have HR : Hid (∀ q, RowAt (w.drewN q) b g n V) := Lib.hid fun q => h
  have HV := Lib.hid (and_lt (O := O) h.2.2.2)
  have HO0 : Hid (∀ (k q : Nat), Calls Tryd.prog 67 #[.pointer (some ⟨bo, 0, none⟩), .int .i64 (k : Int)] (w.drewN q) fun e w' => e = .returned (.int .u64 (wrd O k : Nat)) ∧ w' = w.drewN q) := Lib.hid fun k q => by
    have := word_any bo go no O (k : Int) (w.drewN q) ho
    rw [show wordAt O (k : Int) = wrd O k by unfold wordAt; rw [if_pos (by omega), Int.toNat_natCast]] at this
    exact this
  have HI := Lib.hid (isPlace_yes b g n V i w h (by omega) (by omega))
  have hfin : IntKind.u64.wrap (bits .and .u64 (wrd V (i / 64) : Nat) (wrd O (i / 64) : Nat) / 2 ^ (i % 64) * 2 ^ (i % 64)) = ((cutW (V &&& O) i : Nat) : Int) := by
    rw [row_bits]
    have e1 : (((wrd (V &&& O) (i / 64) : Nat) : Int) / 2 ^ (i % 64) * 2 ^ (i % 64)) = ((cutW (V &&& O) i : Nat) : Int) := by
      unfold cutW
      rw [Int.natCast_mul, Int.natCast_ediv, Int.natCast_pow]; rfl
    rw [e1, IntKind.wrap_u64]
    have := cutW_lt (V &&& O) i
    omega
  have HF := Lib.hid hfin
  have HWP := Lib.hid (wrdP_cut (i := i) HV.out)
  clear h ho hT hfin
  go_enter Tryd.func59, Tryd.ntmps59
  go_wp2_with fail
  refine (HI.out).mono ?_
  rintro e wx ⟨rfl, rfl⟩
  go_wp2_with fail
  go_quiet ((go_at_call 67; exact Calls.quiet_of_same (HO0.out (i / 64) _)))
  rw [HF.out]
  have HKZ : Hid (i < 64 * (i / 64 + 1) ∧ i / 64 < (n + 63) / 64) := Lib.hid (by omega)
  generalize cutW (V &&& O) i = x0 at HWP ⊢
  clear HF hx e63 HI
  obtain ⟨k0, hk0⟩ : ∃ k0, k0 = i / 64 := ⟨_, rfl⟩
  have ek : (i : Int) / 64 = (k0 : Int) := by rw [hk0]; omega
  rw [← hk0] at HWP HKZ
  rw [ek]
  clear ek hk0
  go_wp2_with fail
  go_loopw [7, 9] (fun s7 s9 wr => ∃ (k x q : Nat), s7 = .int .i64 (k : Int) ∧ s9 = .int .u64 (x : Int) ∧ wr = w.drewN q ∧ Hid (WrdP n (V &&& O) i k x ∧ i < 64 * (k + 1) ∧ k < (n + 63) / 64)) (fun s7 _ _ => 70000 - (intOf s7).toNat)
  case atStart => exact ⟨k0, x0, nq, rfl, rfl, rfl, Lib.hid ⟨HWP.out, HKZ.out⟩⟩
  case round =>
    clear HWP HKZ
    obtain ⟨k, x, q, rfl, rfl, rfl, HI⟩ := hrel
    obtain ⟨hi1, hi2⟩ := (HR.out q).head
    by_cases hx0 : x = 0
    · subst hx0
      by_cases hk : k + 1 < (n + 63) / 64
      · have hy : w.cell? ⟨g, k + 1, none⟩ = some (.int .u64 (wrd V (k + 1) : Nat)) := ((HR.out 0).word hk).1
        have hne : (((k : Int) + 1) == (((n + 63) / 64 : Nat) : Int)) = false := by rw [beq_eq_false_iff_ne]; omega
        have HN := Lib.hid (wrdP_next (k := k) HV.out HI.out.1 (by have := HI.out.2.1; omega))
        have HE : Hid (bits .and .u64 (wrd V (k + 1) : Nat) (wrd O (k + 1) : Nat) = ((wrd (V &&& O) (k + 1) : Nat) : Int)) := Lib.hid row_bits
        have HK : Hid (i < 64 * (k + 1 + 1) ∧ k + 1 < (n + 63) / 64) := Lib.hid ⟨by have := HI.out.2.1; omega, hk⟩
        have HOk : Hid (∀ q, Calls Tryd.prog 67 #[.pointer (some ⟨bo, 0, none⟩), .int .i64 ((k : Int) + 1)] (w.drewN q) fun e w' => e = .returned (.int .u64 (wrd O (k + 1) : Nat)) ∧ w' = w.drewN q) := Lib.hid (HO0.out (k + 1))
        have hkb : (k : Int) + 1 ≤ 70000 := by omega
        generalize (n + 63) / 64 = N at *
        have hkz : (0 : Int) ≤ (k : Int) + 1 := by omega
        have hkt : ((k : Int) + 1).toNat = k + 1 := by omega
        have hki : (k : Int) + 1 < (N : Int) := by omega
        go_wp2_with fail
        go_quiet ((go_at_call 67; exact quiet_more HOk.out))
        rw [HE.out]
        go_roundw
        case rel => ((repeat apply Exists.intro); exact ⟨⟨k + 1, wrd (V &&& O) (k + 1), q + nq, by go_num, rfl, World.drewN_drewN _ _ _, Lib.hid ⟨HN.out, HK.out⟩⟩, rfl⟩)
        case measure => simp [intOf]; omega
      · have hk2 := HI.out.2.2
        have hkb : (k : Int) + 1 ≤ 70000 := by omega
        have hne : (((k : Int) + 1) == (((n + 63) / 64 : Nat) : Int)) = true := by rw [beq_iff_eq]; omega
        have HE : Hid (NextP n (V &&& O) i (-1)) := Lib.hid (.inl ⟨rfl, fun j h1 h2 => HI.out.1.2.2 rfl j h1 (by omega)⟩)
        clear HI hk hk2
        generalize (n + 63) / 64 = N at *
        go_wp2
        go_ret
        exact ⟨⟨_, rfl, HE.out⟩, _, rfl⟩
    · have hb2 : ((x : Int) == 0) = false := by rw [beq_eq_false_iff_ne]; omega
      have HR2 := Lib.hid (HI.out.1.2.1 hx0)
      have ht := HI.out.1.1.2
      have HT2 := Lib.hid (HTZ.out x q HI.out.1.1.1)
      have hk := HI.out.2.2
      clear hx0
      go_wp2_with fail
      refine (HT2.out).mono ?_
      rintro e wx ⟨rfl, rfl⟩
      go_wp2
      go_ret
      exact ⟨⟨_, rfl, by have := HR2.out; rw [show (((64 * k + Lib.ctz 64 x : Nat)) : Int) = (k : Int) * 64 + (Lib.ctz 64 x : Nat) by omega] at this; exact this⟩, _, rfl⟩
theorem both_out (b g n V i : Nat) (ov : Value) (z : Int) (hz : max z 0 = (i : Int)) (hi : n ≤ i) (w : World) (h : RowAt w b g n V) :
    Calls Tryd.prog 59 #[.pointer (some ⟨b, 0, none⟩), ov, .int .i64 z] w fun e w' => e = .returned (.int .i64 (-1)) ∧ w' = w := by
  have HI := Lib.hid (isPlace_no b g n V i w h (by omega))
  clear h
  go_enter Tryd.func59, Tryd.ntmps59
  go_wp2_with fail
  refine (HI.out).mono ?_
  rintro e wx ⟨rfl, rfl⟩
  go_wp2
  go_ret
  exact ⟨rfl, rfl⟩
/-- Next, from wherever. -/
theorem next_at (b g n V i : Nat) (z : Int) (hz : max z 0 = (i : Int)) (w : World) (h : RowAt w b g n V) (hT : i < n → TabAt 0 Lib.deBruijn64tab w) :
    Calls Tryd.prog 51 #[.pointer (some ⟨b, 0, none⟩), .int .i64 z] w fun e w' => (∃ r, e = .returned (.int .i64 r) ∧ NextP n V i r) ∧ ∃ q, w' = w.drewN q := by
  have HB : Hid (Calls Tryd.prog 59 #[.pointer (some ⟨b, 0, none⟩), .pointer (some ⟨b, 0, none⟩), .int .i64 z] w fun e w' => (∃ r, e = .returned (.int .i64 r) ∧ NextP n V i r) ∧ ∃ q, w' = w.drewN q) := Lib.hid (by
    by_cases hi : i < n
    · have := both_in b g n V b g n V i z hz hi w h h (hT hi)
      rwa [Nat.and_self] at this
    · exact (both_out b g n V i _ z hz (by omega) w h).mono fun _ _ hh => ⟨⟨-1, hh.1, .inl ⟨rfl, fun j h1 h2 => absurd h2 (by omega)⟩⟩, 0, hh.2⟩)
  clear h hT hz
  go_enter Tryd.func51, Tryd.ntmps51
  go_wp2_with fail
  refine (HB.out).mono ?_
  rintro e wx ⟨⟨r, rfl, hr⟩, q, rfl⟩
  go_wp2
  go_ret
  exact ⟨⟨_, rfl, hr⟩, q, rfl⟩
theorem next_out (b g n V i : Nat) (hi : n ≤ i) (w : World) (h : RowAt w b g n V) :
    Calls Tryd.prog 51 #[.pointer (some ⟨b, 0, none⟩), .int .i64 (i : Int)] w fun e w' => e = .returned (.int .i64 (-1)) ∧ w' = w := by
  have HB := Lib.hid (both_out b g n V i (.pointer (some ⟨b, 0, none⟩)) i (by omega) hi w h)
  clear h
  go_enter Tryd.func51, Tryd.ntmps51
  go_wp2_with fail
  refine (HB.out).mono ?_
  rintro e wx ⟨rfl, rfl⟩
  go_wp2
  go_ret
  exact ⟨rfl, rfl⟩
theorem next_in (b g n V i : Nat) (_hi : i < n) (w : World) (h : RowAt w b g n V) (hT : TabAt 0 Lib.deBruijn64tab w) :
    Calls Tryd.prog 51 #[.pointer (some ⟨b, 0, none⟩), .int .i64 (i : Int)] w fun e w' => (∃ r, e = .returned (.int .i64 r) ∧ NextP n V i r) ∧ ∃ q, w' = w.drewN q :=
  next_at b g n V i i (by omega) w h fun _ => hT
theorem next_neg (b g n V : Nat) (z : Int) (hz : z < 0) (w : World) (h : RowAt w b g n V) (hT : TabAt 0 Lib.deBruijn64tab w) :
    Calls Tryd.prog 51 #[.pointer (some ⟨b, 0, none⟩), .int .i64 z] w fun e w' => (∃ r, e = .returned (.int .i64 r) ∧ NextP n V 0 r) ∧ ∃ q, w' = w.drewN q :=
  next_at b g n V 0 z (by omega) w h fun _ => hT
end Go.Proofs.YtakgepdlninnhaaDoor.Bits
namespace Go.Proofs.YtakgepdlninnhaaDoor.Bits
open Go.ChangeShapes Go.WideShapes Go.ChangeAt Go.RowKit Base Go.Shelf
theorem words_ext {n A B : Nat} (hA : A < 2 ^ n) (hB : B < 2 ^ n) (h : ∀ k, k < (n + 63) / 64 → wrd A k = wrd B k) : A = B := by
  apply Nat.eq_of_testBit_eq
  intro i
  by_cases hi : i < n
  · have h1 := wrd_testBit A (i / 64) (i % 64)
    have h2 := wrd_testBit B (i / 64) (i % 64)
    rw [h _ (by omega)] at h1
    have h3 := h1.symm.trans h2
    have hm : i % 64 < 64 := Nat.mod_lt _ (by decide)
    rwa [decide_eq_true hm, Bool.true_and, Bool.true_and, show 64 * (i / 64) + i % 64 = i by omega] at h3
  · rw [Nat.testBit_lt_two_pow (Nat.lt_of_lt_of_le hA (Nat.pow_le_pow_right (by decide) (by omega))), Nat.testBit_lt_two_pow (Nat.lt_of_lt_of_le hB (Nat.pow_le_pow_right (by decide) (by omega)))]
/-- Does one of the first k words differ? -/
def diffTo (A B : Nat) : Nat → Bool
  | 0 => false
  | k + 1 => diffTo A B k || (wrd A k != wrd B k)
theorem diffTo_succ (A B k : Nat) : diffTo A B (k + 1) = (diffTo A B k || (wrd A k != wrd B k)) := rfl
theorem diffTo_iff (A B k : Nat) : diffTo A B k = false ↔ ∀ j, j < k → wrd A j = wrd B j := by
  induction k with
  | zero => simp [diffTo]
  | succ k ih =>
    rw [diffTo_succ, Bool.or_eq_false_iff, ih, bne_eq_false_iff_eq]
    constructor
    · rintro ⟨h1, h2⟩ j hj
      by_cases e : j = k
      · rw [e]; exact h2
      · exact h1 j (by omega)
    · intro h
      exact ⟨fun j hj => h j (by omega), h k (by omega)⟩
theorem diffTo_all {n A B : Nat} (hA : A < 2 ^ n) (hB : B < 2 ^ n) : diffTo A B ((n + 63) / 64) = decide (A ≠ B) := by
  by_cases e : A = B
  · subst e
    rw [(diffTo_iff A A _).2 (fun _ _ => rfl)]
    simp
  · have : diffTo A B ((n + 63) / 64) ≠ false := fun h => e (words_ext hA hB ((diffTo_iff A B _).1 h))
    rw [decide_eq_true e]
    simpa using this
attribute [irreducible] diffTo
theorem MixAt.grown {w w1 : World} {b g n A B k x : Nat} (h : MixAt w b g n A B k) (hg : w.grownBy w1 (some x)) (hb : b ≠ x) (hg' : g ≠ x) : MixAt w1 b g n A B k :=
  ⟨(hg.block b (heap_lt h.1) (fun e => hb (Option.some.inj e))).trans h.1, (hg.block g (heap_lt h.2.1) (fun e => hg' (Option.some.inj e))).trans h.2.1, h.2.2⟩
theorem grown_set {w wr : World} {g o : Nat} {v : Value} (h : w.grownBy wr (some g)) : w.grownBy (wr.setCell ⟨g, o, none⟩ v) (some g) :=
  ⟨h.os, h.tape, h.output, by have := h.size; rwa [World.size_setCell], fun k hk hne => (Below.heap_setCell _ _ _ _ (fun e => hne (by rw [e]))).trans (h.block k hk hne)⟩
theorem bne_cast (a b : Nat) : (a != b) = ((a : Int) != (b : Int)) := by
  rw [Bool.eq_iff_iff, bne_iff_ne, bne_iff_ne]; omega
set_option maxHeartbeats 2000000 in
theorem merge_gen (b g n V bo O R : Nat) (f : Nat → Nat → Nat) (V' : Nat) (hV' : V' < 2 ^ n) (hf : ∀ x y, x < 18446744073709551616 → y < 18446744073709551616 → f x y < 18446744073709551616)
    (hR : ∀ (x y : Nat) wx, x < 18446744073709551616 → y < 18446744073709551616 → Calls Tryd.prog R #[.int .u64 (x : Int), .int .u64 (y : Int)] wx fun e w' => e = .returned (.int .u64 (f x y : Nat)) ∧ w' = wx)
    (eR : ∀ args w, (callFunc R args).run Tryd.prog w = .ok (.enter R args) w)
    (hw : ∀ k, k < (n + 63) / 64 → f (wrd V k) (wrd O k) &&& mask n k = wrd V' k) (w : World) (h : RowAt w b g n V)
    (ho : ∀ k wr, k < (n + 63) / 64 → MixAt wr b g n V' V k → w.grownBy wr (some g) → Calls Tryd.prog 67 #[.pointer (some ⟨bo, 0, none⟩), .int .i64 (k : Int)] wr fun e w' => e = .returned (.int .u64 (wrd O k : Nat)) ∧ w' = wr) :
    Calls Tryd.prog 56 #[.pointer (some ⟨b, 0, none⟩), .pointer (some ⟨bo, 0, none⟩), .func (.func R) #[] #[]] w fun e w' => e = .returned (.bool (decide (V' ≠ V))) ∧ RowAt w' b g n V' ∧ w.grownBy w' (some g) := by
  obtain ⟨h0, h1⟩ := h.head
  have hn := h.2.2.1
  have HD := Lib.hid (diffTo_all hV' h.2.2.2)
  have HM := Lib.hid (MixAt.start (A := V') h)
  have HO := Lib.hid ho
  have HF := Lib.hid hf
  have HRR := Lib.hid hR
  have HW := Lib.hid hw
  have HV' := Lib.hid hV'
  clear h ho hf hR hw hV'
  generalize decide (V' ≠ V) = res at HD ⊢
  go_enter Tryd.func56, Tryd.ntmps56
  go_wp2_with fail
  clear h0 h1
  go_loopw [7, 18] (fun s7 s18 wr => ∃ k : Nat, s18 = .int .i64 k ∧ k ≤ (n + 63) / 64 ∧ s7 = .bool (diffTo V' V k) ∧ MixAt wr b g n V' V k ∧ w.grownBy wr (some g)) (fun _ s18 _ => (n + 63) / 64 - (intOf s18).toNat)
  case atStart => exact ⟨0, rfl, Nat.zero_le _, by unfold diffTo; rfl, HM.out, World.grownBy.refl _ _⟩
  case round =>
    obtain ⟨k, rfl, hk, rfl, hmix, hgr⟩ := hrel
    by_cases hlt : k < (n + 63) / 64
    · obtain ⟨h0, h1⟩ := hmix.head
      obtain ⟨h2, h3⟩ := hmix.word hlt
      have HWD : Hid (Calls Tryd.prog 67 #[.pointer (some ⟨bo, 0, none⟩), .int .i64 (k : Int)] wr fun e w' => e = .returned (.int .u64 (wrd O k : Nat)) ∧ w' = wr) := Lib.hid (HO.out k wr hlt hmix hgr)
      have HPL : Hid (Calls Tryd.prog 68 #[.pointer (some ⟨b, 0, none⟩), .int .i64 (k : Int)] wr fun e w' => e = .returned (.int .u64 (mask n k : Nat)) ∧ w' = wr) := Lib.hid (places_any b n k hlt hn wr h0)
      have HRC := Lib.hid (HRR.out (wrd V k) (wrd O k) wr (wrd_lt _ _) (wrd_lt _ _))
      have hb : bits .and .u64 (f (wrd V k) (wrd O k) : Nat) (mask n k : Nat) = (wrd V' k : Nat) := by
        rw [u64_and_nat _ _ (HF.out _ _ (wrd_lt _ _) (wrd_lt _ _)) (mask_lt _ _), HW.out k hlt]
      have HS := Lib.hid (diffTo_succ V' V k)
      have HX := Lib.hid hmix
      have HG := Lib.hid hgr
      clear hmix hgr
      go_wp2_with fail
      refine (HWD.out).mono ?_
      rintro e wx ⟨rfl, rfl⟩
      go_wp2_with fail
      refine (HRC.out).mono ?_
      rintro e wy ⟨rfl, rfl⟩
      go_wp2_with fail
      refine (HPL.out).mono ?_
      rintro e wz ⟨rfl, rfl⟩
      generalize diffTo V' V k = D at HS ⊢
      cases D
      · go_wp2_with fail
        go_roundw
        case rel => exact ⟨k + 1, by go_num, by omega, by rw [HS.out, bne_cast]; rfl, HX.out.set_ hlt, grown_set HG.out⟩
        case measure => simp [intOf]; omega
      · go_wp2_with fail
        go_roundw
        case rel => exact ⟨k + 1, by go_num, by omega, by rw [HS.out]; rfl, HX.out.set_ hlt, grown_set HG.out⟩
        case measure => simp [intOf]; omega
    · have e : k = (n + 63) / 64 := by omega
      subst e
      rw [HD.out]
      have HR := Lib.hid (MixAt.done hmix HV'.out)
      have HG := Lib.hid hgr
      clear hmix hgr hlt hk
      go_wp2
      go_ret
      exact ⟨rfl, HR.out, HG.out⟩
theorem word_at {O : Nat} (k : Nat) : wordAt O (k : Int) = wrd O k := by unfold wordAt; rw [if_pos (by omega), Int.toNat_natCast]
theorem merge_any (b g n V bo go no O R : Nat) (f : Nat → Nat → Nat) (V' : Nat) (hV' : V' < 2 ^ n) (hf : ∀ x y, x < 18446744073709551616 → y < 18446744073709551616 → f x y < 18446744073709551616)
    (hR : ∀ (x y : Nat) wx, x < 18446744073709551616 → y < 18446744073709551616 → Calls Tryd.prog R #[.int .u64 (x : Int), .int .u64 (y : Int)] wx fun e w' => e = .returned (.int .u64 (f x y : Nat)) ∧ w' = wx)
    (eR : ∀ args w, (callFunc R args).run Tryd.prog w = .ok (.enter R args) w)
    (hw : ∀ k, k < (n + 63) / 64 → f (wrd V k) (wrd O k) &&& mask n k = wrd V' k) (w : World) (h : RowAt w b g n V) (ho : RowAt w bo go no O) (hne : bo ≠ g ∧ go ≠ g) :
    Calls Tryd.prog 56 #[.pointer (some ⟨b, 0, none⟩), .pointer (some ⟨bo, 0, none⟩), .func (.func R) #[] #[]] w fun e w' => e = .returned (.bool (decide (V' ≠ V))) ∧ RowAt w' b g n V' ∧ w.grownBy w' (some g) :=
  merge_gen b g n V bo O R f V' hV' hf hR eR hw w h fun k wr _ _ hgr => by
    have hq := word_any bo go no O k wr (ho.grown hgr hne.1 hne.2)
    rwa [word_at] at hq
set_option maxHeartbeats 1000000 in
theorem word_mix (b g n A V k : Nat) (hk : k < (n + 63) / 64) (w : World) (h : MixAt w b g n A V k) : Calls Tryd.prog 67 #[.pointer (some ⟨b, 0, none⟩), .int .i64 (k : Int)] w fun e w' => e = .returned (.int .u64 (wrd V k : Nat)) ∧ w' = w := by
  obtain ⟨h0, h1⟩ := h.head
  have hn := h.2.2
  obtain ⟨hc, _⟩ := h.word hk
  clear h
  go_enter Tryd.func67, Tryd.ntmps67
  go_wp2
  go_ret
  exact ⟨rfl, rfl⟩
/-- A row put together with itself. -/
theorem merge_self (b g n V R : Nat) (f : Nat → Nat → Nat) (V' : Nat) (hV' : V' < 2 ^ n) (hf : ∀ x y, x < 18446744073709551616 → y < 18446744073709551616 → f x y < 18446744073709551616)
    (hR : ∀ (x y : Nat) wx, x < 18446744073709551616 → y < 18446744073709551616 → Calls Tryd.prog R #[.int .u64 (x : Int), .int .u64 (y : Int)] wx fun e w' => e = .returned (.int .u64 (f x y : Nat)) ∧ w' = wx)
    (eR : ∀ args w, (callFunc R args).run Tryd.prog w = .ok (.enter R args) w)
    (hw : ∀ k, k < (n + 63) / 64 → f (wrd V k) (wrd V k) &&& mask n k = wrd V' k) (w : World) (h : RowAt w b g n V) :
    Calls Tryd.prog 56 #[.pointer (some ⟨b, 0, none⟩), .pointer (some ⟨b, 0, none⟩), .func (.func R) #[] #[]] w fun e w' => e = .returned (.bool (decide (V' ≠ V))) ∧ RowAt w' b g n V' ∧ w.grownBy w' (some g) :=
  merge_gen b g n V b V R f V' hV' hf hR eR hw w h fun k wr hk hm _ => word_mix b g n V' V k hk wr hm
/-- V's places, and those of O that are places. -/
def orV (n V O : Nat) : Nat := V ||| O % 2 ^ n
theorem orV_lt {n V O : Nat} (hV : V < 2 ^ n) : orV n V O < 2 ^ n := Nat.or_lt_two_pow hV (Nat.mod_lt _ (Nat.two_pow_pos n))
theorem orV_word {n V O : Nat} (hV : V < 2 ^ n) (k : Nat) : (wrd V k ||| wrd O k) &&& mask n k = wrd (orV n V O) k := by
  apply Nat.eq_of_testBit_eq
  intro j
  unfold orV
  rw [wrd_testBit, Nat.testBit_and, Nat.testBit_or, Nat.testBit_or, Nat.testBit_mod_two_pow, wrd_testBit, wrd_testBit]
  by_cases hj : j < 64
  · rw [mask_testBit _ _ _ hj, decide_eq_true hj]
    by_cases hi : 64 * k + j < n
    · simp [hi]
    · rw [Nat.testBit_lt_two_pow (Nat.lt_of_lt_of_le hV (Nat.pow_le_pow_right (n := 2) (i := n) (j := 64 * k + j) (by decide) (by omega)))]
      simp [hi]
  · simp [hj]
theorem or1_any (x y : Nat) (wx : World) (hx : x < 18446744073709551616) (hy : y < 18446744073709551616) : Calls Tryd.prog 57 #[.int .u64 (x : Int), .int .u64 (y : Int)] wx fun e w' => e = .returned (.int .u64 (x ||| y : Nat)) ∧ w' = wx := by
  have hb := u64_or_nat x y hx hy
  go_enter Tryd.func57, Tryd.ntmps57
  go_wp2
  go_ret
  exact ⟨rfl, rfl⟩
theorem or_any (b g n V bo go no O : Nat) (w : World) (h : RowAt w b g n V) (ho : RowAt w bo go no O) (hne : bo ≠ g ∧ go ≠ g) :
    Calls Tryd.prog 41 #[.pointer (some ⟨b, 0, none⟩), .pointer (some ⟨bo, 0, none⟩)] w fun e w' => e = .returned (.bool (decide (orV n V O ≠ V))) ∧ RowAt w' b g n (orV n V O) ∧ w.grownBy w' (some g) := by
  have HM := Lib.hid (merge_any b g n V bo go no O 57 (fun x y => x ||| y) (orV n V O) (orV_lt h.2.2.2) (fun x y hx hy => Nat.or_lt_two_pow (n := 64) hx hy) (fun x y wx hx hy => or1_any x y wx hx hy) (enters_of Tryd.func57 (by kernel_rfl) rfl) (fun k _ => orV_word h.2.2.2 k) w h ho hne)
  clear h ho hne
  generalize decide (orV n V O ≠ V) = res at HM ⊢
  go_enter Tryd.func41, Tryd.ntmps41
  go_wp2_with fail
  refine (HM.out).mono ?_
  rintro e w1 ⟨rfl, hr, hg⟩
  have HR := Lib.hid hr
  have HG := Lib.hid hg
  clear hr hg HM
  go_wp2
  go_ret
  exact ⟨rfl, HR.out, HG.out⟩
theorem copy_any (b g n V : Nat) (w : World) (h : RowAt w b g n V) :
    Calls Tryd.prog 55 #[.pointer (some ⟨b, 0, none⟩)] w fun e w' => e = .returned (.pointer (some ⟨w.heap.size + 1, 0, none⟩)) ∧ RowAt w' (w.heap.size + 1) w.heap.size n V ∧ Below w.heap.size w w' := by
  have HL := Lib.hid (len_any b g n V w h)
  have HN := Lib.hid (new_any n w)
  have hn := h.2.2.1
  have hl : rowLen (n : Int) = n := by unfold rowLen; omega
  rw [hl] at HN
  have HR0 := Lib.hid h
  have hb1 := heap_lt h.1
  have hb2 := heap_lt h.2.1
  have hv : orV n 0 V = V := by unfold orV; rw [Nat.zero_or, Nat.mod_eq_of_lt h.2.2.2]
  have HV := Lib.hid hv
  clear h hl hv
  go_enter Tryd.func55, Tryd.ntmps55
  go_wp2_with fail
  refine (HL.out).mono ?_
  rintro e wx ⟨rfl, rfl⟩
  go_wp2_with fail
  refine (HN.out).mono ?_
  rintro e w1 ⟨rfl, hr, hb⟩
  have HO := Lib.hid (or_any (w.heap.size + 1) w.heap.size n 0 b g n V w1 hr (HR0.out.below hb) ⟨by omega, by omega⟩)
  have HB := Lib.hid hb
  clear hr hb HL HN
  go_wp2_with fail
  refine (HO.out).mono ?_
  rintro e w2 ⟨rfl, hr, hg⟩
  have hr2 : RowAt w2 (w.heap.size + 1) w.heap.size n V := by rw [← HV.out]; exact hr
  have HR := Lib.hid hr2
  have HB2 := Lib.hid (HB.out.grown hg HB.out.size (by intro k hk; cases hk; exact Nat.le_refl _))
  clear hr hr2 hg HO
  go_wp2
  go_ret
  exact ⟨rfl, HR.out, HB2.out⟩
end Go.Proofs.YtakgepdlninnhaaDoor.Bits
namespace Go.Proofs.YtakgepdlninnhaaDoor.Bits
open Go.ChangeShapes Go.WideShapes Go.ChangeAt Go.RowKit Base
/-- The bits of those of zs that are places. -/
def ofV (N : Nat) (zs : List Int) : Nat := zs.foldl (fun V i => setV N V i true) 0
theorem ofV_succ (N : Nat) (zs : List Int) (k : Nat) (h : k < zs.length) : ofV N (zs.take (k + 1)) = setV N (ofV N (zs.take k)) (zs.getD k 0) true := by
  unfold ofV
  rw [List.take_succ_eq_append_getElem h, List.foldl_append]
  simp [h]
theorem set_world {b g n V : Nat} {i : Int} {w0 w w' : World} {e : Ending} (h : SetPost b g n V i true w e w') (hb : Below w0.heap.size w0 w) (hg : w0.heap.size ≤ g) : Below w0.heap.size w0 w' :=
  hb.grown h.2.2 hb.size (by intro k hk; cases hk; exact hg)
set_option maxHeartbeats 1000000 in
theorem of_any (n : Int) (sb so c : Nat) (zs : List Int) (w : World) (hc : ∀ k, k < zs.length → w.cell? ⟨sb, so + k, none⟩ = some (.int .i64 (zs.getD k 0))) (hlen : zs.length ≤ 9223372036854775807) (hsb : sb < w.heap.size) :
    Calls Tryd.prog 47 #[.int .i64 n, .slice (some ⟨sb, so, none⟩) zs.length c] w fun e w' => e = .returned (.pointer (some ⟨w.heap.size + 1, 0, none⟩)) ∧ RowAt w' (w.heap.size + 1) w.heap.size (rowLen n) (ofV (rowLen n) zs) ∧ Below w.heap.size w w' := by
  have HN := Lib.hid (new_any n w)
  have HC := Lib.hid hc
  have HF : Hid (ofV (rowLen n) (zs.take zs.length) = ofV (rowLen n) zs) := Lib.hid (by rw [List.take_length])
  have HT := Lib.hid (ofV_succ (rowLen n) zs)
  clear hc
  generalize rowLen n = N at HN HF HT ⊢
  go_enter Tryd.func47, Tryd.ntmps47
  go_wp2_with fail
  refine (HN.out).mono ?_
  rintro e w1 ⟨rfl, hr, hb⟩
  have HR := Lib.hid hr
  have HB := Lib.hid hb
  clear hr hb HN
  go_wp2_with fail
  go_loopw [12] (fun s12 wr => ∃ k : Nat, k ≤ zs.length ∧ s12 = .int .i64 k ∧ RowAt wr (w.heap.size + 1) w.heap.size N (ofV N (zs.take k)) ∧ Below w.heap.size w wr) (fun i _ => zs.length - (intOf i).toNat)
  case atStart => exact ⟨0, Nat.zero_le _, rfl, HR.out, HB.out⟩
  case round =>
    obtain ⟨k, hk, rfl, hr, hb⟩ := hrel
    by_cases hlt : k < zs.length
    · have hx : wr.cell? ⟨sb, so + k, none⟩ = some (.int .i64 (zs.getD k 0)) := (hb.cell (p := ⟨sb, so + k, none⟩) hsb).trans (HC.out k hlt)
      have HS := Lib.hid (fun on => set_any (w.heap.size + 1) w.heap.size N (ofV N (zs.take k)) (zs.getD k 0) on wr hr)
      have HB2 := Lib.hid hb
      have HT2 := Lib.hid (HT.out k hlt)
      clear hr hb
      generalize zs.getD k 0 = z at hx HS HT2
      go_wp2_with fail
      refine (HS.out true).mono ?_
      intro e w2 hp
      have he := hp.1
      have HP := Lib.hid hp
      subst he
      clear hp
      go_wp2_with fail
      go_roundw
      case rel => exact ⟨k + 1, by omega, by go_num, by rw [HT2.out]; exact HP.out.2.1, set_world HP.out HB2.out (Nat.le_refl _)⟩
      case measure => simp [intOf]; omega
    · have e : k = zs.length := by omega
      rw [e, HF.out] at hr
      have HR2 := Lib.hid hr
      have HB2 := Lib.hid hb
      clear hr hb e
      go_wp2
      go_ret
      exact ⟨rfl, HR2.out, HB2.out⟩
end Go.Proofs.YtakgepdlninnhaaDoor.Bits
