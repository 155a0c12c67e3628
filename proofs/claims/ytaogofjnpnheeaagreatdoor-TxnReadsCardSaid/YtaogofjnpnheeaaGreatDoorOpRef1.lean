/-
  Contract of the document's own answer on operations' texts: how many digits stand at a place. Not a statement of the seat.
-/
import Derived.Test.YtaogofjnpnheeaaGreatDoorOpRead
namespace Go.Proofs.YtaogofjnpnheeaaGreatDoor.Op
open Go.ChangeShapes Go.WideShapes Go.ChangeAt Go.RowKit Base Nu F Go.Lib
theorem run_at : ∀ (l : List UInt8) (k : Nat), k ≤ (run l).length → (∀ h : k < l.length, digB l[k] = true → k + 1 ≤ (run l).length) ∧ ((∀ h : k < l.length, digB l[k] = false) → k = (run l).length)
  | [], k, hk => by
    have : k = 0 := by simpa [run] using hk
    subst this
    exact ⟨fun h => by simp at h, fun _ => rfl⟩
  | x :: l, k, hk => by
    unfold run at hk ⊢
    by_cases hx : digB x = true
    · rw [List.takeWhile_cons_of_pos hx] at hk ⊢
      cases k with
      | zero => exact ⟨fun _ _ => by simp, fun h => by have := h (by simp); simp [hx] at this⟩
      | succ k =>
        obtain ⟨h1, h2⟩ := run_at l k (by simpa [run] using hk)
        unfold run at h1 h2
        refine ⟨fun h hd => ?_, fun h => ?_⟩
        · have := h1 (by simpa using h) (by simpa using hd)
          simp; omega
        · have := h2 (fun h' => by have := h (by simpa using h'); simpa using this)
          simp; omega
    · rw [List.takeWhile_cons_of_neg hx] at hk ⊢
      have : k = 0 := by simpa using hk
      subst this
      exact ⟨fun h hd => absurd (by simpa using hd) hx, fun _ => rfl⟩
/-- How many digits stand at a place. -/
def dgN (s : ByteArray) (i : Nat) : Nat := (run (s.data.toList.drop i)).length
theorem dgN_at (s : ByteArray) (i k : Nat) (hk : k ≤ dgN s i) : (∀ h : i + k < s.size, digB s[i + k] = true → k + 1 ≤ dgN s i) ∧ ((∀ h : i + k < s.size, digB s[i + k] = false) → k = dgN s i) := by
  obtain ⟨h1, h2⟩ := run_at (s.data.toList.drop i) k hk
  have hl : (s.data.toList.drop i).length = s.size - i := by simp
  refine ⟨fun h hd => h1 (by omega) ?_, fun h => h2 fun h' => ?_⟩
  · have e : s[i + k] = (s.data.toList.drop i)[k]'(by omega) := by simp [List.getElem_drop]; rfl
    rw [← e]; exact hd
  · have e : s[i + k]'(by omega) = (s.data.toList.drop i)[k]'(by omega) := by simp [List.getElem_drop]; rfl
    rw [← e]; exact h (by omega)
theorem dgN_le (s : ByteArray) (i : Nat) : dgN s i ≤ s.size - i := by
  have : (run (s.data.toList.drop i)).length ≤ (s.data.toList.drop i).length := by unfold run; exact (List.takeWhile_sublist _).length_le
  unfold dgN
  simpa using this
end Go.Proofs.YtaogofjnpnheeaaGreatDoor.Op
