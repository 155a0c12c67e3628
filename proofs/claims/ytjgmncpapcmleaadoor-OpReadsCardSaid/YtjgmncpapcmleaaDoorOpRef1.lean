/-
  Contract of the document's own answer on operations' texts: how many digits stand at a place. Not a statement of the seat.
-/
import Derived.Test.YtjgmncpapcmleaaDoorOpRead
namespace Go.Proofs.YtjgmncpapcmleaaDoor.Op
open Go.ChangeShapes Go.WideShapes Go.ChangeAt Go.RowKit Base Nu F Go.Lib
theorem run_at : ∀ (l : List UInt8) (k : Nat), k ≤ (run l).length → (∀ h : k < l.length, digB l[k] = true → k + 1 ≤ (run l).length) ∧ ((∀ h : k < l.length, digB l[k] = false) → k = (run l).length)
  | [], k, hk => by
    have : k = 0 := by simpa [run] using hk
    subst this
    exact ⟨fun h => by simp at h, fun _ => rfl⟩
  | x :: l, k, hk => by
    unfold run at hk ⊢
    by_cases hx : digB x = true
    · rw [List.takeWhile_cons_of_pos hx] at hk ⊢
      cases k with
      | zero => exact ⟨fun _ _ => by simp, fun h => by have := h (by simp); simp [hx] at this⟩
      | succ k =>
        obtain ⟨h1, h2⟩ := run_at l k (by simpa [run] using hk)
        unfold run at h1 h2
        refine ⟨fun h hd => ?_, fun h => ?_⟩
        · have := h1 (by simpa using h) (by simpa using hd)
          simp; omega
        · have := h2 (fun h' => by have := h (by simpa using h'); simpa using this)
          simp; omega
    · rw [List.takeWhile_cons_of_neg hx] at hk ⊢
      have : k = 0 := by simpa using hk
      subst this
      exact ⟨fun h hd => absurd (by simpa using hd) hx, fun _ => rfl⟩
/-- How many digits stand at a place. -/
def dgN (s : ByteArray) (i : Nat) : Nat := (run (s.data.toList.drop i)).length
theorem dgN_at (s : ByteArray) (i k : Nat) (hk : k ≤ dgN s i) : (∀ h : i + k < s.size, digB s[i + k] = true → k + 1 ≤ dgN s i) ∧ ((∀ h : i + k < s.size, digB s[i + k] = false) → k = dgN s i) := by
  obtain ⟨h1, h2⟩ := run_at (s.data.toList.drop i) k hk
  have hl : (s.data.toList.drop i).length = s.size - i := by simp
  refine ⟨fun h hd => h1 (by omega) ?_, fun h => h2 fun h' => ?_⟩
  · have e : s[i + k] = (s.data.toList.drop i)[k]'(by omega) := by simp [List.getElem_drop]; rfl
    rw [← e]; exact hd
  · have e : s[i + k]'(by omega) = (s.data.toList.drop i)[k]'(by omega) := by simp [List.getElem_drop]; rfl
    rw [← e]; exact h (by omega)
theorem dgN_le (s : ByteArray) (i : Nat) : dgN s i ≤ s.size - i := by
  have : (run (s.data.toList.drop i)).length ≤ (s.data.toList.drop i).length := by unfold run; exact (List.takeWhile_sublist _).length_le
  unfold dgN
  simpa using this
set_option maxHeartbeats 2000000 in
theorem digits_any (s : ByteArray) (i : Nat) (hi : i ≤ s.size + 1) (hs : s.size ≤ 1000000) (w : World) :
    Calls Tryd.prog 39 #[.string s, .int .i64 i] w fun e w' => e = .returned (.int .i64 (dgN s i : Nat)) ∧ w = w' := by
  have H1 : Hid (∀ k, k ≤ dgN s i → ∀ h : i + k < s.size, digB s[i + k] = true → k + 1 ≤ dgN s i) := Lib.hid fun k hk => (dgN_at s i k hk).1
  have H2 : Hid (∀ k, k ≤ dgN s i → (∀ h : i + k < s.size, digB s[i + k] = false) → k = dgN s i) := Lib.hid fun k hk => (dgN_at s i k hk).2
  have hL := dgN_le s i
  have hL2 : dgN s i ≤ 1000000 := by omega
  clear hL
  generalize dgN s i = L at *
  go_enter Tryd.func39, Tryd.ntmps39
  go_wp2
  go_loop [5] (fun s5 => ∃ k : Nat, s5 = .int .i64 k ∧ k ≤ L) (fun s5 => 1000001 - (intOf s5).toNat)
  case atStart => exact ⟨0, rfl, Nat.zero_le _⟩
  case round =>
    obtain ⟨k, rfl, hk⟩ := hrel
    obtain ⟨j, hj⟩ : ∃ j, j = i + k := ⟨_, rfl⟩
    have h1 := H1.out k hk
    have h2 := H2.out k hk
    rw [← hj] at h1 h2
    have h2' : ¬ j < s.size → k = L := fun h => h2 fun h' => absurd h' h
    have hj2 : (j : Int) ≤ 2000001 := by omega
    have e : (i : Int) + (k : Int) = (j : Int) := by omega
    have HE := Lib.hid e
    have HK1 := Lib.hid h1
    have HK2 := Lib.hid h2
    have HK3 := Lib.hid h2'
    clear h1 h2 h2' hj H1 H2 e
    by_cases hlt : j < s.size
    · have hb2 : s[j].toNat < 256 := s[j].toNat_lt
      by_cases h1 : 48 ≤ (s[j].toNat : Int)
      · by_cases h2 : (s[j].toNat : Int) ≤ 57
        · have hn := HK1.out hlt (by unfold digB; rw [decide_eq_true (by omega)])
          have e := HE.out
          clear HK1 HK2 HK3
          go_wp2
          go_round
          case rel => exact ⟨k + 1, by go_num, hn⟩
          case measure => simp [intOf]; omega
        · have hn := HK2.out (fun _ => by unfold digB; rw [decide_eq_false (by omega)])
          subst hn
          have e := HE.out
          clear HK1 HK2 HK3
          go_wp2
          go_ret
          exact ⟨rfl, rfl⟩
      · have hn := HK2.out (fun _ => by unfold digB; rw [decide_eq_false (by omega)])
        subst hn
        have e := HE.out
        clear HK1 HK2 HK3
        go_wp2
        go_ret
        exact ⟨rfl, rfl⟩
    · have hn := HK3.out hlt
      subst hn
      have e := HE.out
      clear HK1 HK2 HK3
      go_wp2
      go_ret
      exact ⟨rfl, rfl⟩
end Go.Proofs.YtjgmncpapcmleaaDoor.Op
