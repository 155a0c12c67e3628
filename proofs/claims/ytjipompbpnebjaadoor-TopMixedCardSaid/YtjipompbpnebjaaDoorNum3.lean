/-
  Contracts of the program's sums and products: Add, Mul. Not a statement of the seat.
-/
import Derived.Test.YtjipompbpnebjaaDoorNum1
namespace Go.Proofs.YtjipompbpnebjaaDoor.Nu
open Go.ChangeShapes Go.WideShapes Go.ChangeAt Go.RowKit Go.Lib Lst
/-- A sum, or a product, if it is one of 64 bits. -/
def fitV (x : Int) : Value := .tuple #[.int .i64 (if fits x = true then x else 0), .bool (fits x)]
theorem fitV_yes {x : Int} (h : fits x = true) : fitV x = .tuple #[.int .i64 x, .bool true] := by unfold fitV; rw [if_pos h, h]
theorem fitV_no {x : Int} (h : ¬ fits x = true) : fitV x = .tuple #[.int .i64 0, .bool false] := by unfold fitV; rw [if_neg h, show fits x = false by simpa using h]
theorem addP_any (a b : Int) (a0 : -9223372036854775808 ≤ a) (a1 : a ≤ 9223372036854775807) (b0 : -9223372036854775808 ≤ b) (b1 : b ≤ 9223372036854775807) (w : World) :
    Calls Tryd.prog 15 #[.int .i64 a, .int .i64 b] w fun e w' => e = .returned (fitV (a + b)) ∧ w = w' := by
  by_cases h : fits (a + b) = true
  · rw [fitV_yes h]
    obtain ⟨f0, f1⟩ := of_decide_eq_true h
    have hw : IntKind.i64.wrap (a + b) = a + b := by rw [IntKind.wrap_i64]; omega
    clear h
    by_cases hb : 0 < b
    · have h1 : a < a + b := by omega
      go_enter Tryd.func15, Tryd.ntmps15
      go_wp2
      go_ret2
      exact ⟨rfl, rfl⟩
    · have h1 : ¬ a < a + b := by omega
      go_enter Tryd.func15, Tryd.ntmps15
      go_wp2
      go_ret2
      exact ⟨rfl, rfl⟩
  · rw [fitV_no h]
    have hf : ¬ (-9223372036854775808 ≤ a + b ∧ a + b ≤ 9223372036854775807) := fun hh => h (decide_eq_true hh)
    clear h
    by_cases hb : 0 < b
    · obtain ⟨s, hs, h1⟩ : ∃ s, IntKind.i64.wrap (a + b) = s ∧ ¬ a < s := ⟨a + b - 18446744073709551616, by rw [IntKind.wrap_i64]; omega, by omega⟩
      clear hf
      go_enter Tryd.func15, Tryd.ntmps15
      go_wp2
      go_ret2
      exact ⟨rfl, rfl⟩
    · obtain ⟨s, hs, h1⟩ : ∃ s, IntKind.i64.wrap (a + b) = s ∧ a < s := ⟨a + b + 18446744073709551616, by rw [IntKind.wrap_i64]; omega, by omega⟩
      clear hf
      go_enter Tryd.func15, Tryd.ntmps15
      go_wp2
      go_ret2
      exact ⟨rfl, rfl⟩
set_option maxHeartbeats 1000000 in
theorem mulP_any (a b : Int) (a0 : -9223372036854775808 ≤ a) (a1 : a ≤ 9223372036854775807) (b0 : -9223372036854775808 ≤ b) (b1 : b ≤ 9223372036854775807) (w : World) :
    Calls Tryd.prog 17 #[.int .i64 a, .int .i64 b] w fun e w' => e = .returned (fitV (a * b)) ∧ w = w' := by
  by_cases hb : b = 0
  · subst hb
    rw [fitV_yes (x := a * 0) (by rw [Int.mul_zero]; decide)]
    go_enter Tryd.func17, Tryd.ntmps17
    go_wp2
    go_ret2
    exact ⟨by simp, rfl⟩
  have hb' : (b == 0) = false := by rw [beq_eq_false_iff_ne]; exact hb
  by_cases hs2 : a = -9223372036854775808 ∧ b = -1
  · obtain ⟨rfl, rfl⟩ := hs2
    rw [fitV_no (x := -9223372036854775808 * -1) (by decide)]
    clear hb hb'
    go_enter Tryd.func17, Tryd.ntmps17
    go_wp2
    go_ret2
    exact ⟨by simp, rfl⟩
  obtain ⟨t, hp, ht1, ht2⟩ := wrap_round (a * b)
  have hpb := wrap_bd (a * b)
  have HY : Hid (((a == -9223372036854775808) && (b == -1)) = false) := Lib.hid (by
    rw [Bool.eq_false_iff]; intro h; simp at h; exact hs2 h)
  by_cases hf : fits (a * b) = true
  · have h0 : t = 0 := ht2 hf
    have hw : IntKind.i64.wrap (a * b) = a * b := by rw [hp, h0]; omega
    have hq : (a * b).tdiv b = a := Int.mul_tdiv_cancel _ hb
    have hn : (a != a) = false := by simp
    rw [fitV_yes hf]
    clear hp ht1 ht2 hpb h0 hf hs2
    cases e3 : b == -1 <;> cases e4 : a == -9223372036854775808
    all_goals first
      | exact absurd HY.out (by rw [e3, e4]; decide)
      | (clear HY
         go_enter Tryd.func17, Tryd.ntmps17
         go_wp2
         all_goals (go_ret2; exact ⟨by simp, rfl⟩))
  · have hf' : fits (a * b) = false := by simpa using hf
    have h0 : t ≠ 0 := ht1 hf'
    have hne := round_ne b0 b1 hb hp h0
    rw [fitV_no hf]
    have hn : ((IntKind.i64.wrap (a * b)).tdiv b != a) = true := by rw [bne_iff_ne]; exact hne
    have hpx : ∃ p, IntKind.i64.wrap (a * b) = p := ⟨_, rfl⟩
    obtain ⟨p, hw⟩ := hpx
    rw [hw] at hn hpb hp
    obtain ⟨p0, p1⟩ := hpb
    have hq0 : ∃ q, p.tdiv b = q := ⟨_, rfl⟩
    obtain ⟨q, hq⟩ := hq0
    have hqb := quo_fits p0 p1 hb (fun hh => by
      obtain ⟨e1, e2⟩ := hh
      subst e1
      exact hs2 ⟨by omega, rfl⟩)
    rw [hq] at hn hqb
    obtain ⟨q0, q1⟩ := hqb
    clear hp ht1 ht2 h0 hf hf' hs2 hne
    cases e3 : b == -1 <;> cases e4 : a == -9223372036854775808
    all_goals first
      | exact absurd HY.out (by rw [e3, e4]; decide)
      | (clear HY
         go_enter Tryd.func17, Tryd.ntmps17
         go_wp2
         all_goals (go_ret2; exact ⟨by simp, rfl⟩))
end Go.Proofs.YtjipompbpnebjaaDoor.Nu
