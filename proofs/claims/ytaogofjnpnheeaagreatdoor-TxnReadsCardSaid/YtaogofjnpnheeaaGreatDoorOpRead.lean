/-
  Plain facts on operations: what a text is read as, an operation's text, and that the one is the other's. Not a statement of the seat.
-/
import Derived.Test.YtaogofjnpnheeaaGreatDoorOpMath
import Derived.Test.YtaogofjnpnheeaaGreatDoorNuBack
import Derived.Test.YtaogofjnpnheeaaGreatDoorHead
namespace Go.Proofs.YtaogofjnpnheeaaGreatDoor.Op
open Go.Lib Nu Pk F
/-- The numbers of some texts, one by one; the first error ends it. -/
def nums : List (List UInt8) → List Int × Int
  | [] => ([], 0)
  | p :: l => if (readL p).2 = 0 then ((readL p).1 :: (nums l).1, (nums l).2) else ([], (readL p).2)
/-- What some numbers make, right or not. -/
def opOf (q : List Int) : Opr := ⟨decide (1 < q.length), q.getD 0 0, q.getD 1 0, q.getD 2 0⟩
/-- What a text is read as. -/
def readO (l : List UInt8) : Opr × Int :=
  if parts l = [] then (Opr.zero, 5)
  else if (nums (parts l)).2 ≠ 0 then (Opr.zero, (nums (parts l)).2)
  else if (opOf (nums (parts l)).1).rd && (decide ((parts l).length = 3) != decide ((opOf (nums (parts l)).1).t ≠ 0)) then (Opr.zero, 5)
  else if rightO (opOf (nums (parts l)).1) then (opOf (nums (parts l)).1, 0) else (Opr.zero, 1)
theorem itoa_pos {n : Int} (h : 0 ≤ n) : (itoa n).all digB = true ∧ itoa n ≠ [] := by
  unfold itoa
  rw [if_neg (by omega)]
  exact ⟨dec_all _, dec_ne _⟩
theorem itoa_dgs {n : Int} (h : 0 ≤ n) : dgs (itoa n) = true := by
  obtain ⟨h1, h2⟩ := itoa_pos h
  unfold dgs
  rw [h1]
  cases hi : itoa n with
  | nil => exact absurd hi h2
  | cons => rfl
theorem run_itoa {n : Int} (h : 0 ≤ n) (c : UInt8) (b : List UInt8) (hc : digB c = false) : run (itoa n ++ c :: b) = itoa n ∧ aft (itoa n ++ c :: b) = c :: b := run_cat _ _ _ (itoa_pos h).1 hc
theorem run_itoa0 {n : Int} (h : 0 ≤ n) : run (itoa n) = itoa n ∧ aft (itoa n) = [] := ⟨run_of_dgs (itoa_dgs h), ((dgs_iff _).1 (itoa_dgs h)).2⟩
theorem read_small {n : Int} (h0 : 0 ≤ n) (h1 : n ≤ 2147483647) : readL (itoa n) = (n, 0) := by rw [read_itoa, if_pos ⟨h0, h1⟩]
/-- The text of a right operation is read as it. -/
theorem read_text {x : Opr} (h : rightO x = true) : readO (textO x) = (x, 0) := by
  obtain ⟨rd, k, t, n⟩ := x
  cases rd with
  | false =>
    obtain ⟨h1, h2, h3, h4⟩ := right_w h rfl
    dsimp only at h1 h2 h3 h4
    subst h3 h4
    have hp : parts (textO ⟨false, k, 0, 0⟩) = [itoa k] := by
      unfold textO
      rw [if_pos h]
      simp [parts, itoa_dgs (show (0 : Int) ≤ k by omega)]
    unfold readO
    have hn : nums [itoa k] = ([k], 0) := by simp [nums, read_small (show (0 : Int) ≤ k by omega) (by omega)]
    have ho : opOf [k] = ⟨false, k, 0, 0⟩ := rfl
    rw [hp, if_neg (by simp), hn, ho]
    simp [h]
  | true =>
    obtain ⟨h1, h2, h3⟩ := right_r h rfl
    dsimp only at h1 h2 h3
    have rk := run_itoa (show (0 : Int) ≤ k by omega) 64
    rcases h1 with ⟨rfl, rfl⟩ | ⟨h4, h5, h6, h7⟩
    · have hp : parts (textO ⟨true, k, 0, 0⟩) = [itoa k, itoa 0] := by
        unfold textO
        rw [if_pos h, parts_eq]
        have r0 := run_itoa0 (show (0 : Int) ≤ 0 by decide)
        simp [partsR, (rk (itoa 0) dig64).1, (rk (itoa 0) dig64).2, (itoa_pos (show (0 : Int) ≤ k by omega)).2, r0.1, r0.2, (itoa_pos (show (0 : Int) ≤ 0 by decide)).2]
      unfold readO
      have hn : nums [itoa k, itoa 0] = ([k, 0], 0) := by simp [nums, read_small (show (0 : Int) ≤ k by omega) (by omega), read_small (show (0 : Int) ≤ 0 by decide) (by omega)]
      have ho : opOf [k, 0] = ⟨true, k, 0, 0⟩ := rfl
      rw [hp, if_neg (by simp), hn, ho]
      simp [h]
    · have h0 : ¬ t = 0 := by omega
      have hp : parts (textO ⟨true, k, t, n⟩) = [itoa k, itoa t, itoa n] := by
        unfold textO
        rw [if_pos h, parts_eq]
        have r1 := rk (itoa t ++ 46 :: itoa n) dig64
        have r2 := run_itoa (show (0 : Int) ≤ t by omega) 46 (itoa n) dig46
        have r0 := run_itoa0 (show (0 : Int) ≤ n by omega)
        simp [partsR, h0, r1.1, r1.2, r2.1, r2.2, (itoa_pos (show (0 : Int) ≤ k by omega)).2, (itoa_pos (show (0 : Int) ≤ t by omega)).2, (itoa_pos (show (0 : Int) ≤ n by omega)).2, r0.1, r0.2]
      unfold readO
      have hn : nums [itoa k, itoa t, itoa n] = ([k, t, n], 0) := by simp [nums, read_small (show (0 : Int) ≤ k by omega) (by omega), read_small (show (0 : Int) ≤ t by omega) (by omega), read_small (show (0 : Int) ≤ n by omega) (by omega)]
      have ho : opOf [k, t, n] = ⟨true, k, t, n⟩ := rfl
      rw [hp, if_neg (by simp), hn, ho]
      simp [h, h0]
/-- The forms of a text that has parts. -/
theorem parts_forms {l : List UInt8} (h : parts l ≠ []) : (∃ r, l = 119 :: r ∧ parts l = [r]) ∨ (∃ a b, l = 114 :: (a ++ 64 :: b) ∧ parts l = [a, b]) ∨ (∃ a b c, l = 114 :: (a ++ 64 :: (b ++ 46 :: c)) ∧ parts l = [a, b, c]) := by
  rw [parts_eq] at h ⊢
  cases l with
  | nil => exact absurd rfl h
  | cons c r =>
    unfold partsR at h ⊢
    dsimp only at h ⊢
    by_cases h1 : c = 119
    · rw [if_pos h1] at h ⊢
      by_cases h2 : run r ≠ [] ∧ aft r = []
      · rw [if_pos h2]
        rw [run_of_dgs ((dgs_iff r).2 h2)]
        exact .inl ⟨r, by rw [h1], rfl⟩
      · rw [if_neg h2] at h; exact absurd rfl h
    rw [if_neg h1] at h ⊢
    by_cases h2 : c = 114
    case neg => rw [if_neg h2] at h; exact absurd rfl h
    rw [if_pos h2] at h ⊢
    by_cases h3 : run r ≠ [] ∧ (aft r).head? = some 64 ∧ run (aft r).tail ≠ []
    case neg => rw [if_neg h3] at h; exact absurd rfl h
    rw [if_pos h3] at h ⊢
    have e1 : r = run r ++ 64 :: (aft r).tail := by
      have h4 := run_aft r
      cases ha : aft r with
      | nil => rw [ha] at h3; have := h3.2.1; cases this
      | cons x y =>
        rw [ha] at h3 h4
        have : x = 64 := Option.some.inj h3.2.1
        subst this
        exact h4.symm
    by_cases h4 : aft (aft r).tail = []
    · rw [if_pos h4]
      refine .inr (.inl ⟨run r, run (aft r).tail, ?_, rfl⟩)
      have := run_aft (aft r).tail
      rw [h4, List.append_nil] at this
      rw [this, h2, ← e1]
    · rw [if_neg h4] at h ⊢
      by_cases h5 : (aft (aft r).tail).head? = some 46 ∧ run (aft (aft r).tail).tail ≠ [] ∧ aft (aft (aft r).tail).tail = []
      case neg => rw [if_neg h5] at h; exact absurd rfl h
      rw [if_pos h5]
      refine .inr (.inr ⟨run r, run (aft r).tail, run (aft (aft r).tail).tail, ?_, rfl⟩)
      have h6 := run_aft (aft r).tail
      have h7 := run_aft (aft (aft r).tail).tail
      rw [h5.2.2, List.append_nil] at h7
      rw [h7, h2]
      have e2 : 46 :: (aft (aft r).tail).tail = aft (aft r).tail := by
        cases ha : aft (aft r).tail with
        | nil => rw [ha] at h5; have := h5.1; cases this
        | cons x y =>
          rw [ha] at h5
          have : x = 46 := Option.some.inj h5.1
          rw [this]; rfl
      rw [e2, h6, ← e1]
theorem nums_cons {p : List UInt8} {l : List (List UInt8)} (h : (nums (p :: l)).2 = 0) : (readL p).2 = 0 ∧ (nums l).2 = 0 ∧ (nums (p :: l)).1 = (readL p).1 :: (nums l).1 := by
  have e : nums (p :: l) = if (readL p).2 = 0 then ((readL p).1 :: (nums l).1, (nums l).2) else ([], (readL p).2) := rfl
  rw [e] at h ⊢
  by_cases h1 : (readL p).2 = 0
  · rw [if_pos h1] at h ⊢
    exact ⟨h1, h, rfl⟩
  · rw [if_neg h1] at h
    exact absurd h h1
/-- What is read is right, and has just that text. -/
theorem text_read {l : List UInt8} (h : (readO l).2 = 0) : rightO (readO l).1 = true ∧ textO (readO l).1 = l := by
  unfold readO at h ⊢
  by_cases h1 : parts l = []
  · rw [if_pos h1] at h; cases h
  rw [if_neg h1] at h ⊢
  by_cases h2 : (nums (parts l)).2 ≠ 0
  · rw [if_pos h2] at h; exact absurd h h2
  rw [if_neg h2] at h ⊢
  by_cases h3 : ((opOf (nums (parts l)).1).rd && (decide ((parts l).length = 3) != decide ((opOf (nums (parts l)).1).t ≠ 0))) = true
  · rw [if_pos h3] at h; cases h
  rw [if_neg h3] at h ⊢
  by_cases h4 : rightO (opOf (nums (parts l)).1) = true
  case neg => rw [if_neg h4] at h; cases h
  rw [if_pos h4]
  refine ⟨h4, ?_⟩
  show textO (opOf (nums (parts l)).1) = l
  have h2' : (nums (parts l)).2 = 0 := by simpa using h2
  unfold textO
  rw [if_pos h4]
  rcases parts_forms h1 with ⟨r, e, hp⟩ | ⟨a, b, e, hp⟩ | ⟨a, b, c, e, hp⟩
  · rw [hp] at h2' ⊢
    obtain ⟨g1, g2, g3⟩ := nums_cons h2'
    rw [g3]
    have i1 := itoa_read g1
    show (if (opOf [(readL r).1]).rd then _ else 119 :: itoa (readL r).1) = l
    rw [i1.1, e]
    rfl
  · rw [hp] at h2' h3 ⊢
    obtain ⟨g1, g2, g3⟩ := nums_cons h2'
    obtain ⟨g4, g5, g6⟩ := nums_cons g2
    rw [g3, g6] at h3 ⊢
    have i1 := itoa_read g1
    have i2 := itoa_read g4
    have ht : (readL b).1 = 0 := by
      by_cases h0 : (readL b).1 = 0
      · exact h0
      · exfalso; apply h3; simp [opOf, h0, nums]
    show (if (readL b).1 = 0 then 114 :: (itoa (readL a).1 ++ 64 :: itoa (readL b).1) else _) = l
    rw [if_pos ht, i1.1, i2.1, e]
  · rw [hp] at h2' h3 ⊢
    obtain ⟨g1, g2, g3⟩ := nums_cons h2'
    obtain ⟨g4, g5, g6⟩ := nums_cons g2
    obtain ⟨g7, g8, g9⟩ := nums_cons g5
    rw [g3, g6, g9] at h3 ⊢
    have i1 := itoa_read g1
    have i2 := itoa_read g4
    have i3 := itoa_read g7
    have ht : ¬ (readL b).1 = 0 := by
      intro h0; apply h3; simp [opOf, h0, nums]
    show (if (readL b).1 = 0 then _ else 114 :: (itoa (readL a).1 ++ 64 :: (itoa (readL b).1 ++ 46 :: itoa (readL c).1))) = l
    rw [if_neg ht, i1.1, i2.1, i3.1, e]
/-- Where there is an error nothing is told. -/
theorem read_none {l : List UInt8} (h : (readO l).2 ≠ 0) : (readO l).1 = Opr.zero := by
  unfold readO at h ⊢
  by_cases h1 : parts l = []
  · rw [if_pos h1]
  rw [if_neg h1] at h ⊢
  by_cases h2 : (nums (parts l)).2 ≠ 0
  · rw [if_pos h2]
  rw [if_neg h2] at h ⊢
  by_cases h3 : ((opOf (nums (parts l)).1).rd && (decide ((parts l).length = 3) != decide ((opOf (nums (parts l)).1).t ≠ 0))) = true
  · rw [if_pos h3]
  rw [if_neg h3] at h ⊢
  by_cases h4 : rightO (opOf (nums (parts l)).1) = true
  · rw [if_pos h4] at h; exact absurd rfl h
  · rw [if_neg h4]
end Go.Proofs.YtaogofjnpnheeaaGreatDoor.Op
