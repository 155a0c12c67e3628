/-
  Plain facts: the numbers of some texts, and what they make. Not a statement of the seat.
-/
import Derived.Test.YtaogofjnpnheeaaGreatDoorOpRead
namespace Go.Proofs.YtaogofjnpnheeaaGreatDoor.Op
open Go.Lib Nu F
theorem nums_err : ∀ (l : List (List UInt8)) (k : Nat) (e : Int), k < l.length → (∀ j, j < k → (readL (l.getD j [])).2 = 0) → (readL (l.getD k [])).2 = e → e ≠ 0 → (nums l).2 = e
  | [], k, e, h, _, _, _ => by simp at h
  | p :: l, 0, e, _, _, h, he => by
    have h' : (readL p).2 = e := h
    unfold nums
    rw [if_neg (by rw [h']; exact he)]
    exact h'
  | p :: l, k + 1, e, hk, hj, h, he => by
    have h0 : (readL p).2 = 0 := hj 0 (by omega)
    unfold nums
    rw [if_pos h0]
    exact nums_err l k e (by simpa using hk) (fun j hjk => by have := hj (j + 1) (by omega); simpa using this) (by simpa using h) he
theorem nums_ok : ∀ (l : List (List UInt8)), (∀ j, j < l.length → (readL (l.getD j [])).2 = 0) → nums l = (l.map (fun p => (readL p).1), 0)
  | [], _ => rfl
  | p :: l, h => by
    have h0 : (readL p).2 = 0 := h 0 (by simp)
    have ih := nums_ok l (fun j hj => by have := h (j + 1) (by simpa using hj); simpa using this)
    unfold nums
    rw [if_pos h0, ih]
    rfl
/-- Numbers that are read are small. -/
theorem readL_bd (l : List UInt8) : 0 ≤ (readL l).1 ∧ (readL l).1 ≤ 2147483647 := by
  by_cases h : (readL l).2 = 0
  · exact (itoa_read h).2
  · unfold readL at h ⊢
    split
    · exact ⟨by decide, by decide⟩
    · next h1 =>
      rw [if_neg h1] at h
      split
      · next h2 =>
        rw [if_pos h2] at h
        split
        · exact ⟨by decide, by decide⟩
        · next h3 => rw [if_neg h3] at h; exact absurd rfl h
      · exact ⟨by decide, by decide⟩
theorem readO_num {l : List UInt8} {e : Int} (h : parts l ≠ []) (h1 : (nums (parts l)).2 = e) (he : e ≠ 0) : readO l = (Opr.zero, e) := by
  unfold readO
  rw [if_neg h, h1, if_pos he]
theorem readO_dot {l : List UInt8} (h : parts l ≠ []) (h1 : (nums (parts l)).2 = 0) (h2 : ((opOf (nums (parts l)).1).rd && (decide ((parts l).length = 3) != decide ((opOf (nums (parts l)).1).t ≠ 0))) = true) : readO l = (Opr.zero, 5) := by
  unfold readO
  rw [if_neg h, h1, if_neg (by simp), if_pos h2]
theorem readO_rng {l : List UInt8} (h : parts l ≠ []) (h1 : (nums (parts l)).2 = 0) (h2 : ((opOf (nums (parts l)).1).rd && (decide ((parts l).length = 3) != decide ((opOf (nums (parts l)).1).t ≠ 0))) = false) (h3 : rightO (opOf (nums (parts l)).1) = false) : readO l = (Opr.zero, 1) := by
  unfold readO
  rw [if_neg h, h1, if_neg (by simp), h2, if_neg (by simp), h3]
  rfl
theorem readO_yes {l : List UInt8} (h : parts l ≠ []) (h1 : (nums (parts l)).2 = 0) (h2 : ((opOf (nums (parts l)).1).rd && (decide ((parts l).length = 3) != decide ((opOf (nums (parts l)).1).t ≠ 0))) = false) (h3 : rightO (opOf (nums (parts l)).1) = true) : readO l = (opOf (nums (parts l)).1, 0) := by
  unfold readO
  rw [if_neg h, h1, if_neg (by simp), h2, if_neg (by simp), h3]
  rfl
end Go.Proofs.YtaogofjnpnheeaaGreatDoor.Op
