/-
  Plain facts: a text's parts, by the places at which the document's own answer looks. Not a statement of the seat.
-/
import Derived.Test.YtaogofjnpnheeaaGreatDoorOpRef1
namespace Go.Proofs.YtaogofjnpnheeaaGreatDoor.Op
open Go.Lib Nu
theorem run_take (l : List UInt8) : run l = l.take (run l).length := by
  have h := run_aft l
  have e : (run l ++ aft l).take (run l).length = run l := List.take_left
  rw [h] at e
  exact e.symm
theorem aft_drop (l : List UInt8) : aft l = l.drop (run l).length := by
  have h := run_aft l
  have e : (run l ++ aft l).drop (run l).length = aft l := List.drop_left
  rw [h] at e
  exact e.symm
theorem ext_list (s : ByteArray) (a b : Nat) : (s.extract a b).data.toList = (s.data.toList.drop a).take (b - a) := by
  rw [ByteArray.data_extract, Array.toList_extract, List.extract_eq_take_drop]
theorem run_ext (s : ByteArray) (a : Nat) : run (s.data.toList.drop a) = (s.extract a (a + dgN s a)).data.toList := by
  rw [ext_list, Nat.add_sub_cancel_left]
  exact run_take _
theorem aft_at (s : ByteArray) (a : Nat) : aft (s.data.toList.drop a) = s.data.toList.drop (a + dgN s a) := by
  rw [aft_drop, List.drop_drop]
  rfl
theorem run_nil (s : ByteArray) (a : Nat) : run (s.data.toList.drop a) = [] ↔ dgN s a = 0 := by
  unfold dgN
  exact List.length_eq_zero_iff.symm
theorem drop_nil (s : ByteArray) (a : Nat) : s.data.toList.drop a = [] ↔ s.size ≤ a := by
  rw [List.drop_eq_nil_iff]
  simp
theorem head_at (s : ByteArray) (a : Nat) (c : UInt8) : (s.data.toList.drop a).head? = some c ↔ ∃ h : a < s.size, s[a] = c := by
  rw [List.head?_drop]
  constructor
  · intro h
    obtain ⟨h1, h2⟩ := List.getElem?_eq_some_iff.1 h
    exact ⟨by simpa using h1, h2⟩
  · rintro ⟨h1, h2⟩
    rw [List.getElem?_eq_some_iff]
    exact ⟨by simpa using h1, h2⟩
theorem tail_at (s : ByteArray) (a : Nat) : (s.data.toList.drop a).tail = s.data.toList.drop (a + 1) := by rw [List.tail_drop]
theorem list_cons (s : ByteArray) (h : 0 < s.size) : s.data.toList = s[0] :: s.data.toList.drop 1 := by
  cases hl : s.data.toList with
  | nil => have : s.data.toList.length = s.size := by simp
           rw [hl] at this; simp at this; omega
  | cons c r =>
    have : s[0] = c := by
      have e : s[0] = s.data.toList[0]'(by simpa using h) := rfl
      rw [e]; simp [hl]
    rw [this]; rfl
/-- A text's parts, by places. -/
theorem parts_none (s : ByteArray) (h : s.size = 0) : parts s.data.toList = [] := by
  have : s.data.toList = [] := List.length_eq_zero_iff.1 (by simpa using h)
  rw [this]; rfl
theorem parts_head (s : ByteArray) (h : 0 < s.size) (h1 : s[0] ≠ 119) (h2 : s[0] ≠ 114) : parts s.data.toList = [] := by
  rw [parts_eq, list_cons s h]
  unfold partsR
  dsimp only
  rw [if_neg h1, if_neg h2]
theorem parts_dig (s : ByteArray) (h : 0 < s.size) (h1 : dgN s 1 = 0) : parts s.data.toList = [] := by
  have hr := (run_nil s 1).2 h1
  rw [parts_eq, list_cons s h]
  unfold partsR
  dsimp only
  rw [if_neg (show ¬ (run (s.data.toList.drop 1) ≠ [] ∧ aft (s.data.toList.drop 1) = []) from fun e => e.1 hr), if_neg (show ¬ (run (s.data.toList.drop 1) ≠ [] ∧ (aft (s.data.toList.drop 1)).head? = some 64 ∧ run (aft (s.data.toList.drop 1)).tail ≠ []) from fun e => e.1 hr)]
  split
  · rfl
  · split <;> rfl
theorem parts_w (s : ByteArray) (h : 0 < s.size) (hc : s[0] = 119) (h1 : dgN s 1 ≠ 0) : (1 + dgN s 1 < s.size → parts s.data.toList = []) ∧ (s.size ≤ 1 + dgN s 1 → parts s.data.toList = [(s.extract 1 (1 + dgN s 1)).data.toList]) := by
  rw [parts_eq, list_cons s h]
  unfold partsR
  dsimp only
  rw [if_pos hc, aft_at]
  refine ⟨fun h2 => if_neg fun e => ?_, fun h2 => ?_⟩
  · have := (drop_nil s _).1 e.2; omega
  · rw [if_pos ⟨fun e => h1 ((run_nil s 1).1 e), (drop_nil s _).2 h2⟩, run_ext]
theorem parts_r0 (s : ByteArray) (h : 0 < s.size) (hc : s[0] = 114) (h2 : ¬ ((∃ h : 1 + dgN s 1 < s.size, s[1 + dgN s 1] = 64) ∧ dgN s (1 + dgN s 1 + 1) ≠ 0)) : parts s.data.toList = [] := by
  rw [parts_eq, list_cons s h]
  unfold partsR
  dsimp only
  rw [if_neg (by rw [hc]; decide), if_pos hc, aft_at, tail_at, if_neg]
  rintro ⟨_, e1, e2⟩
  exact h2 ⟨(head_at s _ _).1 e1, fun e => e2 ((run_nil s _).2 e)⟩
theorem parts_r1 (s : ByteArray) (h : 0 < s.size) (hc : s[0] = 114) (h1 : dgN s 1 ≠ 0) (h2 : ∃ h : 1 + dgN s 1 < s.size, s[1 + dgN s 1] = 64) (h3 : dgN s (1 + dgN s 1 + 1) ≠ 0) (h4 : s.size ≤ 1 + dgN s 1 + 1 + dgN s (1 + dgN s 1 + 1)) :
    parts s.data.toList = [(s.extract 1 (1 + dgN s 1)).data.toList, (s.extract (1 + dgN s 1 + 1) (1 + dgN s 1 + 1 + dgN s (1 + dgN s 1 + 1))).data.toList] := by
  rw [parts_eq, list_cons s h]
  unfold partsR
  dsimp only
  rw [if_neg (by rw [hc]; decide), if_pos hc, aft_at, tail_at, if_pos ⟨fun e => h1 ((run_nil s 1).1 e), (head_at s _ _).2 h2, fun e => h3 ((run_nil s _).1 e)⟩, aft_at, if_pos ((drop_nil s _).2 h4), run_ext, run_ext]
theorem parts_r2 (s : ByteArray) (h : 0 < s.size) (hc : s[0] = 114) (B : Nat) (hB : B = 1 + dgN s 1 + 1 + dgN s (1 + dgN s 1 + 1)) (h4 : B < s.size) (h5 : ¬ (s[B] = 46 ∧ dgN s (B + 1) ≠ 0)) : parts s.data.toList = [] := by
  subst hB
  rw [parts_eq, list_cons s h]
  unfold partsR
  dsimp only
  rw [if_neg (by rw [hc]; decide), if_pos hc, aft_at, tail_at, aft_at]
  split
  · rw [if_neg (fun e => by have := (drop_nil s _).1 e; omega), if_neg]
    rintro ⟨e1, e2, _⟩
    obtain ⟨_, e1⟩ := (head_at s _ _).1 e1
    rw [tail_at] at e2
    exact h5 ⟨e1, fun e => e2 ((run_nil s _).2 e)⟩
  · rfl
theorem parts_r3 (s : ByteArray) (h : 0 < s.size) (hc : s[0] = 114) (h1 : dgN s 1 ≠ 0) (h2 : ∃ h : 1 + dgN s 1 < s.size, s[1 + dgN s 1] = 64) (h3 : dgN s (1 + dgN s 1 + 1) ≠ 0) (B : Nat) (hB : B = 1 + dgN s 1 + 1 + dgN s (1 + dgN s 1 + 1)) (h4 : B < s.size) (h5 : s[B] = 46) (h6 : dgN s (B + 1) ≠ 0) :
    (B + 1 + dgN s (B + 1) < s.size → parts s.data.toList = []) ∧ (s.size ≤ B + 1 + dgN s (B + 1) → parts s.data.toList = [(s.extract 1 (1 + dgN s 1)).data.toList, (s.extract (1 + dgN s 1 + 1) B).data.toList, (s.extract (B + 1) (B + 1 + dgN s (B + 1))).data.toList]) := by
  subst hB
  rw [parts_eq, list_cons s h]
  unfold partsR
  dsimp only
  rw [if_neg (by rw [hc]; decide), if_pos hc, aft_at, tail_at, aft_at, if_pos ⟨fun e => h1 ((run_nil s 1).1 e), (head_at s _ _).2 h2, fun e => h3 ((run_nil s _).1 e)⟩, if_neg (fun e => by have := (drop_nil s _).1 e; omega), tail_at, aft_at]
  refine ⟨fun h7 => if_neg ?_, fun h7 => ?_⟩
  · rintro ⟨_, _, e⟩
    have := (drop_nil s _).1 e
    omega
  · rw [if_pos ⟨(head_at s _ _).2 ⟨h4, h5⟩, fun e => h6 ((run_nil s _).1 e), (drop_nil s _).2 h7⟩, run_ext, run_ext, run_ext]
end Go.Proofs.YtaogofjnpnheeaaGreatDoor.Op
