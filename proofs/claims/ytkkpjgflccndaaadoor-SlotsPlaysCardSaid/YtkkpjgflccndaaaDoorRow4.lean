/-
  A contract of Next: the least place from one on that is set. Not a statement of the seat.
-/
import Derived.Test.YtkkpjgflccndaaaDoorRow1
import Derived.Test.YtkkpjgflccndaaaDoorShelf
import Derived.LoopTactic
namespace Go.Proofs.YtkkpjgflccndaaaDoor.Bits
open Go.ChangeShapes Go.WideShapes Go.ChangeAt Go.RowKit Base
theorem ctz_spec {x : Nat} (h0 : x ≠ 0) (h : x < 18446744073709551616) : x.testBit (Lib.ctz 64 x) = true ∧ (∀ m, m < Lib.ctz 64 x → x.testBit m = false) ∧ Lib.ctz 64 x < 64 := by
  obtain ⟨m, hm, hlt⟩ := Lib.ctzFrom_spec 64 x (Nat.pos_of_ne_zero h0) h
  have e : Lib.ctz 64 x = Lib.ctzFrom 64 x := by unfold Lib.ctz; rw [if_neg h0]
  rw [e]
  generalize Lib.ctzFrom 64 x = t at hm hlt
  subst hm
  refine ⟨?_, fun j hj => ?_, hlt⟩
  · rw [Nat.testBit_two_pow_mul]
    simp
  · rw [Nat.testBit_two_pow_mul]
    simp [Nat.not_le.2 hj]
/-- r is the least place from i on that is set; -1: there is none. -/
def NextP (n V i : Nat) (r : Int) : Prop :=
  (r = -1 ∧ ∀ j, i ≤ j → j < n → V.testBit j = false) ∨ ∃ j : Nat, r = j ∧ i ≤ j ∧ j < n ∧ V.testBit j = true ∧ ∀ m, i ≤ m → m < j → V.testBit m = false
theorem bit_lt {V n j : Nat} (hV : V < 2 ^ n) (h : V.testBit j = true) : j < n := by
  rcases Nat.lt_or_ge j n with h1 | h1
  · exact h1
  · rw [Nat.testBit_lt_two_pow (Nat.lt_of_lt_of_le hV (Nat.pow_le_pow_right (by decide) h1))] at h; cases h
theorem next_word {V n i k : Nat} (hV : V < 2 ^ n) (hik : i ≤ 64 * k) (hno : ∀ j, i ≤ j → j < 64 * k → V.testBit j = false) (h0 : wrd V k ≠ 0) : NextP n V i ((64 * k + Lib.ctz 64 (wrd V k) : Nat) : Int) := by
  obtain ⟨h1, h2, h3⟩ := ctz_spec h0 (wrd_lt V k)
  generalize Lib.ctz 64 (wrd V k) = t at h1 h2 h3
  rw [wrd_testBit, decide_eq_true h3, Bool.true_and] at h1
  refine .inr ⟨_, rfl, by omega, bit_lt hV h1, h1, fun m hm hlt => ?_⟩
  by_cases hk : m < 64 * k
  · exact hno m hm hk
  · have := h2 (m - 64 * k) (by omega)
    rw [wrd_testBit, decide_eq_true (by omega), Bool.true_and, show 64 * k + (m - 64 * k) = m by omega] at this
    exact this
theorem word_none {V k : Nat} (h0 : wrd V k = 0) (j : Nat) (h1 : 64 * k ≤ j) (h2 : j < 64 * (k + 1)) : V.testBit j = false := by
  have := wrd_testBit V k (j - 64 * k)
  rw [h0, Nat.zero_testBit, decide_eq_true (by omega), Bool.true_and, show 64 * k + (j - 64 * k) = j by omega] at this
  exact this.symm
theorem first_testBit (V i m : Nat) : (wrd V (i / 64) / 2 ^ (i % 64)).testBit m = (decide (i % 64 + m < 64) && V.testBit (i + m)) := by
  rw [← Nat.shiftRight_eq_div_pow, Nat.testBit_shiftRight, wrd_testBit, show 64 * (i / 64) + (i % 64 + m) = i + m by omega]
theorem first_lt (V i : Nat) : wrd V (i / 64) / 2 ^ (i % 64) < 18446744073709551616 := Nat.lt_of_le_of_lt (Nat.div_le_self _ _) (wrd_lt _ _)
theorem next_first {V n i : Nat} (hV : V < 2 ^ n) (h0 : wrd V (i / 64) / 2 ^ (i % 64) ≠ 0) : NextP n V i ((i + Lib.ctz 64 (wrd V (i / 64) / 2 ^ (i % 64)) : Nat) : Int) := by
  obtain ⟨h1, h2, h3⟩ := ctz_spec h0 (first_lt V i)
  generalize Lib.ctz 64 (wrd V (i / 64) / 2 ^ (i % 64)) = t at h1 h2 h3
  rw [first_testBit] at h1
  simp only [Bool.and_eq_true, decide_eq_true_iff] at h1
  refine .inr ⟨_, rfl, by omega, bit_lt hV h1.2, h1.2, fun m hm hlt => ?_⟩
  have := h2 (m - i) (by omega)
  rw [first_testBit, decide_eq_true (by omega), Bool.true_and, show i + (m - i) = m by omega] at this
  exact this
theorem first_none {V i : Nat} (h0 : wrd V (i / 64) / 2 ^ (i % 64) = 0) (j : Nat) (h1 : i ≤ j) (h2 : j < 64 * (i / 64 + 1)) : V.testBit j = false := by
  have := first_testBit V i (j - i)
  rw [h0, Nat.zero_testBit, decide_eq_true (by omega), Bool.true_and, show i + (j - i) = j by omega] at this
  exact this.symm
theorem tz_any (x : Nat) (hx : x < 18446744073709551616) (w : World) (hT : TabAt 0 Lib.deBruijn64tab w) : Calls Tryd.prog 34 #[.int .u64 (x : Int)] w fun e w' => e = .returned (.int .i64 (Lib.ctz 64 x : Nat)) ∧ w' = w :=
  Any7.bits_TrailingZeros64 Tryd.tz64 x hx w fun _ => hT
set_option maxHeartbeats 1000000 in
theorem next_in (b g n V i : Nat) (hi : i < n) (w : World) (h : RowAt w b g n V) (hT : TabAt 0 Lib.deBruijn64tab w) :
    Calls Tryd.prog 32 #[.pointer (some ⟨b, 0, none⟩), .int .i64 (i : Int)] w fun e w' => (∃ r, e = .returned (.int .i64 r) ∧ NextP n V i r) ∧ w' = w := by
  obtain ⟨h0, h1⟩ := h.head
  have hn := h.2.2.1
  have HW : Hid (∀ k, k < (n + 63) / 64 → w.cell? ⟨g, k, none⟩ = some (.int .u64 (wrd V k : Nat))) := Lib.hid fun k hk => (h.word hk).1
  have hx := HW.out (i / 64) (by omega)
  have e63 := i64_and63 i
  have HTZ : Hid (∀ x : Nat, x < 18446744073709551616 → Calls Tryd.prog 34 #[.int .u64 (x : Int)] w fun e w' => e = .returned (.int .i64 (Lib.ctz 64 x : Nat)) ∧ w' = w) := Lib.hid fun x hx => tz_any x hx w hT
  have HV := Lib.hid h.2.2.2
  have HI := Lib.hid (isPlace_yes b g n V i w h (by omega) (by omega))
  clear h hT
  obtain ⟨x0, hx0⟩ : ∃ x0, x0 = wrd V (i / 64) / 2 ^ (i % 64) := ⟨_, rfl⟩
  have ex : ((wrd V (i / 64) : Nat) / 2 ^ (i % 64) : Int) = (x0 : Int) := by rw [hx0, Int.natCast_ediv, Int.natCast_pow]; rfl
  have HL : Hid (x0 < 18446744073709551616) := Lib.hid (by rw [hx0]; exact first_lt V i)
  have HF : Hid (x0 ≠ 0 → NextP n V i ((i + Lib.ctz 64 x0 : Nat) : Int)) := Lib.hid (by rw [hx0]; exact next_first HV.out)
  have HZ : Hid (x0 = 0 → ∀ j, i ≤ j → j < 64 * (i / 64 + 1) → V.testBit j = false) := Lib.hid (by rw [hx0]; exact first_none)
  clear hx0
  by_cases hz : x0 = 0
  · have hb : ((x0 : Int) != 0) = false := by rw [bne_eq_false_iff_eq]; omega
    have HN := Lib.hid (HZ.out hz)
    clear hz HF HL
    go_enter Tryd.func32, Tryd.ntmps32
    go_wp2_with fail
    refine (HI.out).mono ?_
    rintro e wx ⟨rfl, rfl⟩
    go_wp2_with fail
    go_loop [5] (fun s5 => ∃ k : Nat, s5 = .int .i64 k ∧ i / 64 < k ∧ k ≤ (n + 63) / 64 ∧ Hid (∀ j, i ≤ j → j < 64 * k → V.testBit j = false)) (fun s5 => (n + 63) / 64 - (intOf s5).toNat)
    case atStart => exact ⟨i / 64 + 1, by go_num, by omega, by omega, HN⟩
    case round =>
      obtain ⟨k, rfl, hk1, hk2, HK⟩ := hrel
      by_cases hlt : k < (n + 63) / 64
      · have hy := HW.out k hlt
        have HYL := Lib.hid (wrd_lt V k)
        have HYZ : Hid (wrd V k = 0 → ∀ j, i ≤ j → j < 64 * (k + 1) → V.testBit j = false) := Lib.hid fun h0 j h1 h2 => by
          by_cases h3 : j < 64 * k
          · exact HK.out j h1 h3
          · exact word_none h0 j (by omega) h2
        have HYF : Hid (wrd V k ≠ 0 → NextP n V i ((64 * k + Lib.ctz 64 (wrd V k) : Nat) : Int)) := Lib.hid fun h0 => next_word HV.out (by omega) HK.out h0
        generalize wrd V k = y at hy HYL HYZ HYF
        by_cases hy0 : y = 0
        · have hb2 : ((y : Int) != 0) = false := by rw [bne_eq_false_iff_eq]; omega
          have HK2 := Lib.hid (HYZ.out hy0)
          clear hy0 HYZ HYF HK
          go_wp2_with fail
          go_round
          case rel => exact ⟨k + 1, by go_num, by omega, by omega, HK2⟩
          case measure => simp [intOf]; omega
        · have hb2 : ((y : Int) != 0) = true := by rw [bne_iff_ne]; omega
          have HR := Lib.hid (HYF.out hy0)
          have ht : Lib.ctz 64 y ≤ 64 := Nat.le_of_lt (ctz_spec hy0 HYL.out).2.2
          clear hy0 HYZ HYF HK
          go_wp2_with fail
          refine (HTZ.out y HYL.out).mono ?_
          rintro e wx ⟨rfl, rfl⟩
          go_wp2
          go_ret
          exact ⟨⟨_, rfl, by have := HR.out; rw [show (((64 * k + Lib.ctz 64 y : Nat)) : Int) = (k : Int) * 64 + (Lib.ctz 64 y : Nat) by omega] at this; exact this⟩, rfl⟩
      · have HE : Hid (NextP n V i (-1)) := Lib.hid (.inl ⟨rfl, fun j h1 h2 => HK.out j h1 (by omega)⟩)
        clear HK HW HTZ HI
        go_wp2
        go_ret
        exact ⟨⟨_, rfl, HE.out⟩, rfl⟩
  · have hb : ((x0 : Int) != 0) = true := by rw [bne_iff_ne]; omega
    have HF2 := Lib.hid (HF.out hz)
    have ht : Lib.ctz 64 x0 ≤ 64 := Nat.le_of_lt (ctz_spec hz HL.out).2.2
    clear hz
    go_enter Tryd.func32, Tryd.ntmps32
    go_wp2_with fail
    refine (HI.out).mono ?_
    rintro e wx ⟨rfl, rfl⟩
    go_wp2_with fail
    refine (HTZ.out x0 HL.out).mono ?_
    rintro e wx ⟨rfl, rfl⟩
    go_wp2
    go_ret
    exact ⟨⟨_, rfl, by have := HF2.out; rw [Int.natCast_add] at this; exact this⟩, rfl⟩
theorem next_out (b g n V i : Nat) (hi : n ≤ i) (w : World) (h : RowAt w b g n V) :
    Calls Tryd.prog 32 #[.pointer (some ⟨b, 0, none⟩), .int .i64 (i : Int)] w fun e w' => e = .returned (.int .i64 (-1)) ∧ w' = w := by
  have HI := Lib.hid (isPlace_no b g n V i w h (by omega))
  clear h
  go_enter Tryd.func32, Tryd.ntmps32
  go_wp2_with fail
  refine (HI.out).mono ?_
  rintro e wx ⟨rfl, rfl⟩
  go_wp2
  go_ret
  exact ⟨rfl, rfl⟩
theorem next_neg0 (b g V : Nat) (z : Int) (hz : z < 0) (w : World) (h : RowAt w b g 0 V) :
    Calls Tryd.prog 32 #[.pointer (some ⟨b, 0, none⟩), .int .i64 z] w fun e w' => e = .returned (.int .i64 (-1)) ∧ w' = w := by
  have HI := Lib.hid (isPlace_no b g 0 V 0 w h (by omega))
  have hm : max z 0 = 0 := by omega
  clear h
  go_enter Tryd.func32, Tryd.ntmps32
  go_wp2_with fail
  refine (HI.out).mono ?_
  rintro e wx ⟨rfl, rfl⟩
  go_wp2
  go_ret
  exact ⟨rfl, rfl⟩
set_option maxHeartbeats 1000000 in
theorem next_neg (b g n V : Nat) (z : Int) (hz : z < 0) (hi : 0 < n) (w : World) (h : RowAt w b g n V) (hT : TabAt 0 Lib.deBruijn64tab w) :
    Calls Tryd.prog 32 #[.pointer (some ⟨b, 0, none⟩),   .int .i64 z] w fun e w' => (∃ r, e = .returned (.int .i64 r) ∧ NextP n V 0 r) ∧ w' = w := by
  obtain ⟨h0, h1⟩ := h.head
  have hm : max z 0 = 0 := by omega
  have hn := h.2.2.1
  have HW : Hid (∀ k, k < (n + 63) / 64 → w.cell? ⟨g, k, none⟩ = some (.int .u64 (wrd V k : Nat))) := Lib.hid fun k hk => (h.word hk).1
  have hx := HW.out 0 (by omega)
  have e63 : bits .and .i64 0 63 = 0 := by decide
  have HTZ : Hid (∀ x : Nat, x < 18446744073709551616 → Calls Tryd.prog 34 #[.int .u64 (x : Int)] w fun e w' => e = .returned (.int .i64 (Lib.ctz 64 x : Nat)) ∧ w' = w) := Lib.hid fun x hx => tz_any x hx w hT
  have HV := Lib.hid h.2.2.2
  have HI := Lib.hid (isPlace_yes b g n V 0 w h (by omega) (by omega))
  clear h hT
  have HL : Hid (wrd V 0 < 18446744073709551616) := Lib.hid (wrd_lt V 0)
  have HF : Hid (wrd V 0 ≠ 0 → NextP n V 0 ((0 + Lib.ctz 64 (wrd V 0) : Nat) : Int)) := Lib.hid fun h0 => by
    have := next_word (i := 0) (k := 0) HV.out (by omega) (fun j _ hj => absurd hj (by omega)) h0
    simpa using this
  have HZ : Hid (wrd V 0 = 0 → ∀ j, 0 ≤ j → j < 64 * (0 + 1) → V.testBit j = false) := Lib.hid fun h0 j h1 h2 => word_none h0 j (by omega) h2
  generalize wrd V 0 = x0 at hx HL HF HZ
  by_cases hq : x0 = 0
  · have hb : ((x0 : Int) != 0) = false := by rw [bne_eq_false_iff_eq]; omega
    have HN := Lib.hid (HZ.out hq)
    clear hq HF HL
    go_enter Tryd.func32, Tryd.ntmps32
    go_wp2_with fail
    refine (HI.out).mono ?_
    rintro e wx ⟨rfl, rfl⟩
    go_wp2_with fail
    go_loop [5] (fun s5 => ∃ k : Nat, s5 = .int .i64 k ∧ 0 < k ∧ k ≤ (n + 63) / 64 ∧ Hid (∀ j, 0 ≤ j → j < 64 * k → V.testBit j = false)) (fun s5 => (n + 63) / 64 - (intOf s5).toNat)
    case atStart => exact ⟨0 + 1, by go_num, by omega, by omega, HN⟩
    case round =>
      obtain ⟨k, rfl, hk1, hk2, HK⟩ := hrel
      by_cases hlt : k < (n + 63) / 64
      · have hy := HW.out k hlt
        have HYL := Lib.hid (wrd_lt V k)
        have HYZ : Hid (wrd V k = 0 → ∀ j, 0 ≤ j → j < 64 * (k + 1) → V.testBit j = false) := Lib.hid fun h0 j h1 h2 => by
          by_cases h3 : j < 64 * k
          · exact HK.out j h1 h3
          · exact word_none h0 j (by omega) h2
        have HYF : Hid (wrd V k ≠ 0 → NextP n V 0 ((64 * k + Lib.ctz 64 (wrd V k) : Nat) : Int)) := Lib.hid fun h0 => next_word HV.out (by omega) HK.out h0
        generalize wrd V k = y at hy HYL HYZ HYF
        by_cases hy0 : y = 0
        · have hb2 : ((y : Int) != 0) = false := by rw [bne_eq_false_iff_eq]; omega
          have HK2 := Lib.hid (HYZ.out hy0)
          clear hy0 HYZ HYF HK
          go_wp2_with fail
          go_round
          case rel => exact ⟨k + 1, by go_num, by omega, by omega, HK2⟩
          case measure => simp [intOf]; omega
        · have hb2 : ((y : Int) != 0) = true := by rw [bne_iff_ne]; omega
          have HR := Lib.hid (HYF.out hy0)
          have ht : Lib.ctz 64 y ≤ 64 := Nat.le_of_lt (ctz_spec hy0 HYL.out).2.2
          clear hy0 HYZ HYF HK
          go_wp2_with fail
          refine (HTZ.out y HYL.out).mono ?_
          rintro e wx ⟨rfl, rfl⟩
          go_wp2
          go_ret
          exact ⟨⟨_, rfl, by have := HR.out; rw [show (((64 * k + Lib.ctz 64 y : Nat)) : Int) = (k : Int) * 64 + (Lib.ctz 64 y : Nat) by omega] at this; exact this⟩, rfl⟩
      · have HE : Hid (NextP n V 0 (-1)) := Lib.hid (.inl ⟨rfl, fun j h1 h2 => HK.out j h1 (by omega)⟩)
        clear HK HW HTZ HI
        go_wp2
        go_ret
        exact ⟨⟨_, rfl, HE.out⟩, rfl⟩
  · have hb : ((x0 : Int) != 0) = true := by rw [bne_iff_ne]; omega
    have HF2 := Lib.hid (HF.out hq)
    have ht : Lib.ctz 64 x0 ≤ 64 := Nat.le_of_lt (ctz_spec hq HL.out).2.2
    clear hq
    go_enter Tryd.func32, Tryd.ntmps32
    go_wp2_with fail
    refine (HI.out).mono ?_
    rintro e wx ⟨rfl, rfl⟩
    go_wp2_with fail
    refine (HTZ.out x0 HL.out).mono ?_
    rintro e wx ⟨rfl, rfl⟩
    go_wp2
    go_ret
    exact ⟨⟨_, rfl, by have := HF2.out; rw [Nat.zero_add] at this; exact this⟩, rfl⟩
end Go.Proofs.YtkkpjgflccndaaaDoor.Bits
