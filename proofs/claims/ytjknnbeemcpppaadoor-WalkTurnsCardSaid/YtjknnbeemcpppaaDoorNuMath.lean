/-
  Plain facts on numerals: the digits that are laid one by one from the last one on. Not a statement of the seat.
-/
import Derived.Lib.ItoaNum
namespace Go.Proofs.YtjknnbeemcpppaaDoor.Nu
open Go.Lib
/-- Behind i rounds, U is left, and l is laid. -/
def TextP (N i U : Nat) (l : List UInt8) : Prop := U * 10 ^ i ≤ N ∧ l.length = i ∧ ((i = 0 ∧ U = N ∧ l = []) ∨ (1 ≤ i ∧ (if U = 0 then l = decDigits N else decDigits U ++ l = decDigits N)))
theorem TextP.start (N : Nat) : TextP N 0 N [] := ⟨by simp, rfl, .inl ⟨rfl, rfl, rfl⟩⟩
theorem dec_step (U : Nat) (l : List UInt8) : (if U / 10 = 0 then UInt8.ofNat (48 + U % 10) :: l else decDigits (U / 10) ++ UInt8.ofNat (48 + U % 10) :: l) = decDigits U ++ l := by
  by_cases h : U < 10
  · rw [if_pos (by omega), decDigits, dif_pos h, Nat.mod_eq_of_lt h]; rfl
  · rw [if_neg (by omega), decDigits.eq_def U, dif_neg h, List.append_assoc]; rfl
theorem TextP.step {N i U : Nat} {l : List UInt8} (h : TextP N i U l) (hgo : i = 0 ∨ 0 < U) : TextP N (i + 1) (U / 10) (UInt8.ofNat (48 + U % 10) :: l) := by
  obtain ⟨h1, hl0, h2⟩ := h
  have hd := dec_step U l
  refine ⟨?_, by simp [hl0], .inr ⟨by omega, ?_⟩⟩
  · refine Nat.le_trans ?_ h1
    rw [Nat.pow_succ, Nat.mul_comm (10 ^ i) 10, ← Nat.mul_assoc]
    exact Nat.mul_le_mul_right _ (Nat.div_mul_le_self U 10)
  · have hl : decDigits U ++ l = decDigits N := by
      rcases h2 with ⟨_, e1, e2⟩ | ⟨h3, h4⟩
      · rw [e1, e2, List.append_nil]
      · rw [if_neg (by omega)] at h4; exact h4
    rw [hl] at hd
    by_cases h0 : U / 10 = 0
    · rw [if_pos h0] at hd ⊢; exact hd
    · rw [if_neg h0] at hd ⊢; exact hd
theorem TextP.done {N i : Nat} {l : List UInt8} (h : TextP N i 0 l) (hi : 1 ≤ i) : l = decDigits N := by
  rcases h.2.2 with ⟨h1, _⟩ | ⟨_, h1⟩
  · omega
  · rwa [if_pos rfl] at h1
theorem TextP.few {N i U : Nat} {l : List UInt8} (h : TextP N i U l) (hU : 0 < U) (hN : N < 18446744073709551616) : i < 20 := by
  rcases Nat.lt_or_ge i 20 with h1 | h1
  · exact h1
  · have h2 : 10 ^ 20 ≤ 10 ^ i := Nat.pow_le_pow_right (by decide) h1
    have h3 : 1 * 10 ^ i ≤ U * 10 ^ i := Nat.mul_le_mul_right _ hU
    have := h.1
    have h4 : (10 : Nat) ^ 20 = 100000000000000000000 := by decide
    omega
end Go.Proofs.YtjknnbeemcpppaaDoor.Nu
