/-
  Plain facts on the words of numbers: where each word begins and ends. Not a statement of the seat.
-/
import Derived.Test.YtjipompbpnebjaaDoorNum2
namespace Go.Proofs.YtjipompbpnebjaaDoor.Nu
open Go.Lib
/-- The k-th number's text. -/
def tok (xs : List Int) (k : Nat) : List UInt8 := itoa (xs.getD k 0)
/-- Where it begins. -/
def offs (xs : List Int) (k : Nat) : Nat := if 0 < k then (wordsK xs k).length + 1 else 0
theorem words_succ (xs : List Int) (k : Nat) : ∃ pre, wordsK xs (k + 1) = pre ++ tok xs k ∧ pre.length = offs xs k := by
  refine ⟨if 0 < k then wordsK xs k ++ [32] else wordsK xs k, rfl, ?_⟩
  unfold offs
  by_cases h : 0 < k
  · rw [if_pos h, if_pos h, List.length_append, List.length_singleton]
  · rw [if_neg h, if_neg h]
    obtain rfl : k = 0 := by omega
    rfl
theorem words_len (xs : List Int) (k : Nat) : (wordsK xs (k + 1)).length = offs xs k + (tok xs k).length := by
  obtain ⟨pre, h1, h2⟩ := words_succ xs k
  rw [h1, List.length_append, h2]
theorem offs_succ (xs : List Int) (k : Nat) : offs xs (k + 1) = offs xs k + (tok xs k).length + 1 := by
  rw [show offs xs (k + 1) = (wordsK xs (k + 1)).length + 1 from if_pos (Nat.succ_pos k), words_len]
theorem words_pre (xs : List Int) (k : Nat) : ∀ d, ∃ r, wordsK xs (k + 1 + d) = wordsK xs (k + 1) ++ r ∧ (0 < d → r.head? = some 32)
  | 0 => ⟨[], by simp, fun h => by omega⟩
  | d + 1 => by
    obtain ⟨r, h1, h2⟩ := words_pre xs k d
    refine ⟨r ++ 32 :: itoa (xs.getD (k + 1 + d) 0), ?_, fun _ => ?_⟩
    · show (if 0 < k + 1 + d then wordsK xs (k + 1 + d) ++ [32] else _) ++ itoa (xs.getD (k + 1 + d) 0) = _
      rw [if_pos (by omega), h1]
      simp
    · cases r with
      | nil => rfl
      | cons c t =>
        by_cases hd : 0 < d
        · exact h2 hd
        · obtain rfl : d = 0 := by omega
          have := congrArg List.length h1
          simp at this
theorem tok_at (xs : List Int) (n k j : Nat) (hk : k < n) (hj : j < (tok xs k).length) : (wordsK xs n)[offs xs k + j]? = some ((tok xs k)[j]) := by
  obtain ⟨r, h1, _⟩ := words_pre xs k (n - (k + 1))
  obtain ⟨pre, h3, h4⟩ := words_succ xs k
  rw [show k + 1 + (n - (k + 1)) = n by omega] at h1
  rw [h1, h3, ← h4, List.append_assoc, List.getElem?_append_right (by omega), show pre.length + j - pre.length = j by omega, List.getElem?_append_left hj, List.getElem?_eq_getElem hj]
theorem blank_at (xs : List Int) (n k : Nat) (hk : k + 1 < n) : (wordsK xs n)[offs xs k + (tok xs k).length]? = some 32 := by
  obtain ⟨r, h1, h2⟩ := words_pre xs k (n - (k + 1))
  rw [show k + 1 + (n - (k + 1)) = n by omega] at h1
  rw [h1, ← words_len, List.getElem?_append_right (Nat.le_refl _), Nat.sub_self, ← List.head?_eq_getElem?]
  exact h2 (by omega)
theorem itoa_bytes (n : Int) : ∀ c ∈ itoa n, c ≠ 32 := by
  intro c hc e
  subst e
  have hd : ∀ u : Nat, (32 : UInt8) ∉ decDigits u := fun u h => by
    have := List.all_eq_true.1 (dec_all u) _ h
    exact absurd this (by decide)
  unfold itoa at hc
  split at hc
  · rcases List.mem_cons.1 hc with h | h
    · exact absurd h (by decide)
    · exact hd _ h
  · exact hd _ hc
theorem tok_byte (xs : List Int) (k j : Nat) (hj : j < (tok xs k).length) : (tok xs k)[j] ≠ 32 := itoa_bytes _ _ (List.getElem_mem _)
end Go.Proofs.YtjipompbpnebjaaDoor.Nu
