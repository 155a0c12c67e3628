/-
  Contracts of the document's own answers on numbers: Mul. Not a statement of the seat.
-/
import Derived.Test.YtjipompbpnebjaaDoorNuRef2
namespace Go.Proofs.YtjipompbpnebjaaDoor.Nu
open Go.ChangeShapes Go.WideShapes Go.ChangeAt Go.RowKit Go.Lib Lst
/-- A product that went round is no multiple of the one that gives the other. -/
theorem round_ne {a b p t : Int} (b0 : -9223372036854775808 ≤ b) (b1 : b ≤ 9223372036854775807) (hb : b ≠ 0) (hp : p = a * b - 18446744073709551616 * t) (ht : t ≠ 0) : p.tdiv b ≠ a := by
  intro h
  have h1 := Int.tdiv_mul_add_tmod p b
  rw [h, hp] at h1
  have h2 : (a * b - 18446744073709551616 * t).tmod b = -(18446744073709551616 * t) := by omega
  have h3 : ((a * b - 18446744073709551616 * t).tmod b).natAbs < b.natAbs := by
    rw [Int.natAbs_tmod]
    exact Nat.mod_lt _ (by omega)
  rw [h2] at h3
  omega
theorem wrap_round (x : Int) : ∃ t, IntKind.i64.wrap x = x - 18446744073709551616 * t ∧ (fits x = false → t ≠ 0) ∧ (fits x = true → t = 0) := by
  refine ⟨(x - IntKind.i64.wrap x) / 18446744073709551616, ?_, fun h => ?_, fun h => ?_⟩
  · rw [IntKind.wrap_i64]; omega
  · have h' : ¬ (-9223372036854775808 ≤ x ∧ x ≤ 9223372036854775807) := by simpa [fits] using h
    rw [IntKind.wrap_i64]; omega
  · have h' : -9223372036854775808 ≤ x ∧ x ≤ 9223372036854775807 := of_decide_eq_true h
    rw [IntKind.wrap_i64]; omega
theorem quo_fits {p b : Int} (p0 : -9223372036854775808 ≤ p) (p1 : p ≤ 9223372036854775807) (hb : b ≠ 0) (h : ¬ (b = -1 ∧ p = -9223372036854775808)) : -9223372036854775808 ≤ p.tdiv b ∧ p.tdiv b ≤ 9223372036854775807 := by
  by_cases h1 : b = -1
  · subst h1
    rw [show p.tdiv (-1) = -p by rw [Int.tdiv_neg, Int.tdiv_one]]
    have : p ≠ -9223372036854775808 := fun e => h ⟨rfl, e⟩
    omega
  · by_cases h2 : b = 1
    · subst h2
      rw [Int.tdiv_one]
      omega
    · have h3 : (p.tdiv b).natAbs ≤ p.natAbs / 2 := by
        rw [Int.natAbs_tdiv]
        exact Nat.div_le_div_left (by omega) (by omega)
      omega
theorem wrap_bd (x : Int) : -9223372036854775808 ≤ IntKind.i64.wrap x ∧ IntKind.i64.wrap x ≤ 9223372036854775807 := by rw [IntKind.wrap_i64]; omega
set_option maxHeartbeats 1000000 in
theorem mulR_any (a b : Int) (a0 : -9223372036854775808 ≤ a) (a1 : a ≤ 9223372036854775807) (b0 : -9223372036854775808 ≤ b) (b1 : b ≤ 9223372036854775807) (w : World) :
    Calls Tryd.prog 18 #[.int .i64 a, .int .i64 b] w fun e w' => e = .returned (.tuple #[.int .i64 (if fits (a * b) = true then a * b else 0), .bool (fits (a * b))]) ∧ w = w' := by
  by_cases ha : a = 0
  · subst ha
    rw [show (0 : Int) * b = 0 by simp, show fits 0 = true by decide]
    go_enter Tryd.func18, Tryd.ntmps18
    go_wp2
    go_ret2
    exact ⟨by simp, rfl⟩
  by_cases hb : b = 0
  · subst hb
    have ha' : (a == 0) = false := by rw [beq_eq_false_iff_ne]; exact ha
    rw [show a * (0 : Int) = 0 by simp, show fits 0 = true by decide]
    go_enter Tryd.func18, Tryd.ntmps18
    go_wp2
    go_ret2
    exact ⟨by simp, rfl⟩
  have ha' : (a == 0) = false := by rw [beq_eq_false_iff_ne]; exact ha
  have hb' : (b == 0) = false := by rw [beq_eq_false_iff_ne]; exact hb
  by_cases hs1 : a = -1 ∧ b = -9223372036854775808
  · obtain ⟨rfl, rfl⟩ := hs1
    rw [show fits (-1 * -9223372036854775808) = false by decide]
    clear ha hb ha' hb'
    go_enter Tryd.func18, Tryd.ntmps18
    go_wp2
    go_ret2
    exact ⟨by simp, rfl⟩
  by_cases hs2 : b = -1 ∧ a = -9223372036854775808
  · obtain ⟨rfl, rfl⟩ := hs2
    rw [show fits (-9223372036854775808 * -1) = false by decide]
    clear ha hb ha' hb' hs1
    go_enter Tryd.func18, Tryd.ntmps18
    go_wp2
    go_ret2
    exact ⟨by simp, rfl⟩
  obtain ⟨t, hp, ht1, ht2⟩ := wrap_round (a * b)
  have hpb := wrap_bd (a * b)
  have HX : Hid (((a == -1) && (b == -9223372036854775808)) = false) := Lib.hid (by
    rw [Bool.eq_false_iff]; intro h; simp at h; exact hs1 h)
  have HY : Hid (((b == -1) && (a == -9223372036854775808)) = false) := Lib.hid (by
    rw [Bool.eq_false_iff]; intro h; simp at h; exact hs2 h)
  by_cases hf : fits (a * b) = true
  · have h0 : t = 0 := ht2 hf
    have hw : IntKind.i64.wrap (a * b) = a * b := by rw [hp, h0]; omega
    have hq : (a * b).tdiv b = a := Int.mul_tdiv_cancel _ hb
    have hn : (a != a) = false := by simp
    rw [hf]
    clear hp ht1 ht2 hpb h0 hf hs1 hs2 ha
    cases e1 : a == -1 <;> cases e2 : b == -9223372036854775808 <;> cases e3 : b == -1 <;> cases e4 : a == -9223372036854775808
    all_goals first
      | exact absurd HX.out (by rw [e1, e2]; decide)
      | exact absurd HY.out (by rw [e3, e4]; decide)
      | (clear HX HY
         go_enter Tryd.func18, Tryd.ntmps18
         go_wp2
         all_goals (go_ret2; exact ⟨by simp, rfl⟩))
  · have hf' : fits (a * b) = false := by simpa using hf
    have h0 : t ≠ 0 := ht1 hf'
    have hne := round_ne b0 b1 hb hp h0
    rw [hf']
    have hn : ((IntKind.i64.wrap (a * b)).tdiv b != a) = true := by rw [bne_iff_ne]; exact hne
    have hpx : ∃ p, IntKind.i64.wrap (a * b) = p := ⟨_, rfl⟩
    obtain ⟨p, hw⟩ := hpx
    rw [hw] at hn hpb hp
    obtain ⟨p0, p1⟩ := hpb
    have hq0 : ∃ q, p.tdiv b = q := ⟨_, rfl⟩
    obtain ⟨q, hq⟩ := hq0
    have hqb := quo_fits p0 p1 hb (fun hh => by
      obtain ⟨e1, e2⟩ := hh
      subst e1
      exact hs2 ⟨rfl, by omega⟩)
    rw [hq] at hn hqb
    obtain ⟨q0, q1⟩ := hqb
    clear hp ht1 ht2 h0 hf hf' hs1 hs2 ha hne
    cases e1 : a == -1 <;> cases e2 : b == -9223372036854775808 <;> cases e3 : b == -1 <;> cases e4 : a == -9223372036854775808
    all_goals first
      | exact absurd HX.out (by rw [e1, e2]; decide)
      | exact absurd HY.out (by rw [e3, e4]; decide)
      | (clear HX HY
         go_enter Tryd.func18, Tryd.ntmps18
         go_wp2
         all_goals (go_ret2; exact ⟨by simp, rfl⟩))
end Go.Proofs.YtjipompbpnebjaaDoor.Nu
