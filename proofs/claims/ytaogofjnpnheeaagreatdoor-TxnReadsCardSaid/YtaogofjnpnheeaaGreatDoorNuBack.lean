/-
  Plain facts: what is read has just that text, and the other way round. Not a statement of the seat.
-/
import Derived.Test.YtaogofjnpnheeaaGreatDoorNuRd
namespace Go.Proofs.YtaogofjnpnheeaaGreatDoor.Nu
open Go.Lib
/-- The number of some digits, behind n. -/
def P (n : Nat) (l : List UInt8) : Nat := l.foldl (fun n c => 10 * n + (c.toNat - 48)) n
theorem P_ge : ∀ (l : List UInt8) (n : Nat), n ≤ P n l
  | [], n => Nat.le_refl _
  | c :: l, n => by
    have := P_ge l (10 * n + (c.toNat - 48))
    unfold P at this ⊢
    rw [List.foldl_cons]
    omega
theorem P_snoc (n : Nat) (l : List UInt8) (c : UInt8) : P n (l ++ [c]) = 10 * P n l + (c.toNat - 48) := by
  unfold P
  rw [List.foldl_append, List.foldl_cons, List.foldl_nil]
theorem cap_over : ∀ (l : List UInt8) (n : Nat), 2147483647 < n → l.foldl capStep n = n
  | [], n, _ => rfl
  | c :: l, n, h => by
    rw [List.foldl_cons]
    have : capStep n c = n := by unfold capStep; rw [if_neg (by omega)]
    rw [this]
    exact cap_over l n h
theorem cap_fold : ∀ (l : List UInt8) (n : Nat), (P n l ≤ 2147483647 → l.foldl capStep n = P n l) ∧ (2147483647 < P n l → 2147483647 < l.foldl capStep n)
  | [], n => ⟨fun _ => rfl, fun h => h⟩
  | c :: l, n => by
    have hP : P n (c :: l) = P (10 * n + (c.toNat - 48)) l := rfl
    by_cases h : n ≤ 2147483647
    · have hc : capStep n c = 10 * n + (c.toNat - 48) := by unfold capStep; rw [if_pos h]
      rw [List.foldl_cons, hc, hP]
      exact cap_fold l _
    · have h1 := P_ge (c :: l) n
      rw [cap_over (c :: l) n (by omega)]
      exact ⟨fun h2 => by omega, fun _ => by omega⟩
theorem byte_of {d : Nat} (h : d < 10) : (UInt8.ofNat (48 + d)).toNat = 48 + d := UInt8.toNat_ofNat_of_lt' (show 48 + d < UInt8.size by have : UInt8.size = 256 := rfl; omega)
theorem digit_of {d : Nat} (h : d < 10) : digB (UInt8.ofNat (48 + d)) = true := by
  unfold digB
  rw [byte_of h, decide_eq_true (by omega)]
theorem dec_small {u : Nat} (h : u < 10) : decDigits u = [UInt8.ofNat (48 + u)] := by rw [decDigits, dif_pos h]
theorem dec_big {u : Nat} (h : ¬ u < 10) : decDigits u = decDigits (u / 10) ++ [UInt8.ofNat (48 + u % 10)] := by rw [decDigits, dif_neg h]
theorem dec_all (u : Nat) : (decDigits u).all digB = true := by
  induction u using Nat.strongRecOn with
  | _ u ih =>
    by_cases h : u < 10
    · rw [dec_small h, List.all_cons, digit_of h]; rfl
    · rw [dec_big h, List.all_append, ih (u / 10) (by omega), List.all_cons, digit_of (by omega)]; rfl
theorem dec_val (u : Nat) : P 0 (decDigits u) = u := by
  induction u using Nat.strongRecOn with
  | _ u ih =>
    by_cases h : u < 10
    · rw [dec_small h]
      show 10 * 0 + ((UInt8.ofNat (48 + u)).toNat - 48) = u
      rw [byte_of h]; omega
    · rw [dec_big h, P_snoc, ih (u / 10) (by omega), byte_of (by omega)]; omega
theorem dec_ne (u : Nat) : decDigits u ≠ [] := by
  by_cases h : u < 10
  · rw [dec_small h]; simp
  · rw [dec_big h]; simp
theorem dec_head (u : Nat) (h0 : 0 < u) : ∃ c l, decDigits u = c :: l ∧ c ≠ 48 := by
  induction u using Nat.strongRecOn with
  | _ u ih =>
    by_cases h : u < 10
    · refine ⟨_, [], dec_small h, fun e => ?_⟩
      have := byte_of h
      rw [e] at this
      have h48 : (48 : UInt8).toNat = 48 := rfl
      omega
    · obtain ⟨c, l, e, hc⟩ := ih (u / 10) (by omega) (by omega)
      exact ⟨c, l ++ [UInt8.ofNat (48 + u % 10)], by rw [dec_big h, e]; rfl, hc⟩
/-- Whoever has a text of digits alone, without a 0 ahead, has the text of its number. -/
theorem dec_back : ∀ (n : Nat) (l : List UInt8), l.length = n → l ≠ [] → l.all digB = true → ¬ (1 < l.length ∧ l.head? = some 48) → decDigits (P 0 l) = l
  | 0, l, hn, h0, _, _ => absurd (List.length_eq_zero_iff.1 hn) h0
  | n + 1, l, hn, h0, hd, hz => by
    obtain ⟨l', c, rfl⟩ : ∃ l' c, l = l' ++ [c] := ⟨l.dropLast, l.getLast h0, (List.dropLast_concat_getLast h0).symm⟩
    rw [List.all_append, Bool.and_eq_true] at hd
    obtain ⟨hd1, hd2⟩ := hd
    have hc : digB c = true := by simpa using hd2
    have hcb := of_decide_eq_true hc
    have hce : UInt8.ofNat (48 + (c.toNat - 48)) = c := by
      rw [show 48 + (c.toNat - 48) = c.toNat by omega, UInt8.ofNat_toNat]
    rw [P_snoc]
    by_cases hl : l' = []
    · subst hl
      have : 10 * P 0 [] + (c.toNat - 48) = c.toNat - 48 := by show 10 * 0 + _ = _; omega
      rw [this, dec_small (by omega), hce]
      rfl
    · have hlen : 0 < l'.length := List.length_pos_iff.2 hl
      have hh : (l' ++ [c]).head? = l'.head? := by
        cases l' with
        | nil => exact absurd rfl hl
        | cons a t => rfl
      have h48 : l'.head? ≠ some 48 := fun e => hz ⟨by simp; omega, by rw [hh]; exact e⟩
      have ih := dec_back n l' (by simp at hn; omega) hl hd1 (fun e => h48 e.2)
      have hpos : 0 < P 0 l' := by
        rcases Nat.eq_zero_or_pos (P 0 l') with h | h
        · rw [h, dec_small (by decide)] at ih
          rw [← ih] at h48
          exact absurd rfl h48
        · exact h
      rw [dec_big (by omega), show (10 * P 0 l' + (c.toNat - 48)) / 10 = P 0 l' by omega, show (10 * P 0 l' + (c.toNat - 48)) % 10 = c.toNat - 48 by omega, ih, hce]
theorem read_dec (u : Nat) : readL (decDigits u) = if u ≤ 2147483647 then ((u : Int), 0) else (0, 1) := by
  unfold readL
  rw [if_neg (fun h => by
    rcases h with h | ⟨h1, h2⟩
    · exact dec_ne u h
    · by_cases h0 : 0 < u
      · obtain ⟨c, l, e, hc⟩ := dec_head u h0
        rw [e] at h2
        exact hc (Option.some.inj h2)
      · obtain rfl : u = 0 := by omega
        rw [dec_small (by decide)] at h1
        simp at h1), if_pos (dec_all u)]
  have hc := cap_fold (decDigits u) 0
  rw [dec_val] at hc
  by_cases h : u ≤ 2147483647
  · rw [if_pos h, hc.1 h, if_neg (by omega)]
  · rw [if_neg h, if_pos (hc.2 (by omega))]
/-- The text of a number, read. -/
theorem read_itoa (n : Int) : readL (itoa n) = if 0 ≤ n ∧ n ≤ 2147483647 then (n, 0) else if n < 0 then (0, 10) else (0, 1) := by
  unfold itoa
  by_cases hn : n < 0
  · rw [if_pos hn, if_neg (by omega), if_pos hn]
    unfold readL
    rw [if_neg (fun h => by
      rcases h with h | ⟨_, h⟩
      · cases h
      · exact absurd (Option.some.inj h) (by decide)), if_neg (fun h => by
      rw [List.all_cons, Bool.and_eq_true] at h
      exact absurd h.1 (by decide))]
  · rw [if_neg hn, if_neg hn, read_dec]
    by_cases h : n ≤ 2147483647
    · rw [if_pos (by omega), if_pos ⟨by omega, h⟩, Int.toNat_of_nonneg (by omega)]
    · rw [if_neg (by omega), if_neg (by omega)]
/-- What is read has just that text. -/
theorem itoa_read {l : List UInt8} (h : (readL l).2 = 0) : itoa (readL l).1 = l ∧ 0 ≤ (readL l).1 ∧ (readL l).1 ≤ 2147483647 := by
  unfold readL at h ⊢
  by_cases h1 : l = [] ∨ (1 < l.length ∧ l.head? = some 48)
  · rw [if_pos h1] at h; exact absurd h (by decide)
  · rw [if_neg h1] at h ⊢
    by_cases h2 : l.all digB = true
    · rw [if_pos h2] at h ⊢
      by_cases h3 : 2147483647 < l.foldl capStep 0
      · rw [if_pos h3] at h; exact absurd h (by decide)
      · rw [if_neg h3]
        have hc := cap_fold l 0
        have hP : P 0 l ≤ 2147483647 := by
          rcases Nat.lt_or_ge 2147483647 (P 0 l) with h4 | h4
          · exact absurd (hc.2 h4) h3
          · exact h4
        have hb := dec_back l.length l rfl (fun e => h1 (.inl e)) h2 (fun e => h1 (.inr e))
        rw [hc.1 hP]
        refine ⟨?_, by simp, by simp; omega⟩
        unfold itoa
        rw [if_neg (by simp)]
        simpa using hb
    · rw [if_neg h2] at h; exact absurd h (by decide)
end Go.Proofs.YtaogofjnpnheeaaGreatDoor.Nu
