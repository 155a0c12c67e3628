/-
  Turns of lists, and the first one of them, pure. Not a statement of the seat.
-/
import Derived.Test.YtjknnbeemcpppaaDoorWkM
namespace Go.Proofs.YtjknnbeemcpppaaDoor.Wk
section
variable {α : Type} {z : α} {l : List α}
def rot (l : List α) (i : Nat) : List α := l.drop i ++ l.take i
/-- The ring of a list. -/
def per (z : α) (l : List α) (t : Nat) : α := l.getD (t % l.length) z
theorem rot_len {i : Nat} (h : i ≤ l.length) : (rot l i).length = l.length := by
  unfold rot
  rw [List.length_append, List.length_drop, List.length_take]
  omega
theorem per_lt {t : Nat} (h : t < l.length) : per z l t = l.getD t z := by unfold per; rw [Nat.mod_eq_of_lt h]
theorem per_add (t : Nat) : per z l (t + l.length) = per z l t := by unfold per; rw [Nat.add_mod_right]
theorem rot_get {i k : Nat} (h : i ≤ l.length) (hk : k < l.length) : (rot l i).getD k z = per z l (i + k) := by
  unfold rot per
  rw [List.getD_eq_getElem?_getD, List.getD_eq_getElem?_getD]
  by_cases hs : k < l.length - i
  · rw [List.getElem?_append_left (by rw [List.length_drop]; exact hs), List.getElem?_drop, Nat.mod_eq_of_lt (by omega)]
  · rw [List.getElem?_append_right (by rw [List.length_drop]; omega), List.length_drop, List.getElem?_take_of_lt (by omega)]
    have : (i + k) % l.length = k - (l.length - i) := by
      rw [show i + k = (k - (l.length - i)) + l.length by omega, Nat.add_mod_right, Nat.mod_eq_of_lt (by omega)]
    rw [this]
theorem rot_rot {i j : Nat} (_hi : i ≤ l.length) (hj : j ≤ l.length) : ∃ m, m ≤ l.length ∧ rot (rot l i) j = rot l m := by
  unfold rot
  by_cases h : j ≤ l.length - i
  · refine ⟨i + j, by omega, ?_⟩
    rw [List.drop_append_of_le_length (by rw [List.length_drop]; exact h), List.take_append_of_le_length (by rw [List.length_drop]; exact h), List.drop_drop, List.append_assoc]
    congr 1
    rw [← List.take_add]
  · obtain ⟨k, hk⟩ : ∃ k, k = j - (l.length - i) := ⟨_, rfl⟩
    refine ⟨k, by omega, ?_⟩
    have e1 : (l.drop i ++ l.take i).drop j = (l.take i).drop k := by
      rw [List.drop_append, List.drop_of_length_le (by rw [List.length_drop]; omega), List.nil_append, List.length_drop, hk]
    have e2 : (l.drop i ++ l.take i).take j = l.drop i ++ l.take k := by
      rw [List.take_append, List.take_of_length_le (by rw [List.length_drop]; omega), List.length_drop, List.take_take, Nat.min_eq_left (by omega), hk]
    rw [e1, e2, ← List.append_assoc]
    congr 1
    have e3 : l.drop k = (l.drop k).take (i - k) ++ (l.drop k).drop (i - k) := (List.take_append_drop _ _).symm
    rw [e3, List.drop_drop, List.drop_take]
    congr 2
    omega
theorem rot_back {i : Nat} (_hi : i ≤ l.length) : rot (rot l i) (l.length - i) = l := by
  unfold rot
  have : (l.drop i).length = l.length - i := List.length_drop ..
  rw [← this, List.drop_left', List.take_left', List.take_append_drop] <;> rfl
theorem rot_zero : rot l 0 = l := by unfold rot; simp
theorem per_rot {i t : Nat} (hi : i ≤ l.length) (h0 : 0 < l.length) : per z (rot l i) t = per z l (i + t) := by
  have key : ∀ m k, per z l (k + m * l.length) = per z l k := fun m k => by unfold per; rw [Nat.add_mul_mod_self_right]
  have h1 : per z (rot l i) t = (rot l i).getD (t % l.length) z := by unfold per; rw [rot_len hi]
  rw [h1, rot_get hi (Nat.mod_lt _ h0)]
  have e := Nat.mod_add_div t l.length
  rw [Nat.mul_comm] at e
  have h2 := key (t / l.length) (i + t % l.length)
  rw [Nat.add_assoc, e] at h2
  exact h2.symm
/-- A property of neighbours in the ring hangs on no place. -/
theorem ring_rot {p : α → α → Prop} {i : Nat} (hi : i ≤ l.length) (h0 : 0 < l.length) : (∀ t, p (per z (rot l i) t) (per z (rot l i) (t + 1))) ↔ ∀ t, p (per z l t) (per z l (t + 1)) := by
  constructor
  · intro h t
    have := h (t + (l.length - i))
    rw [per_rot hi h0, per_rot hi h0, show i + (t + (l.length - i)) = t + l.length by omega, show i + (t + (l.length - i) + 1) = (t + 1) + l.length by omega, per_add, per_add] at this
    exact this
  · intro h t
    rw [per_rot hi h0, per_rot hi h0]
    exact h (i + t)
theorem ring_iff {p : α → α → Prop} (h0 : 0 < l.length) : (∀ t, p (per z l t) (per z l (t + 1))) ↔ ∀ t, t < l.length → p (l.getD t z) (l.getD ((t + 1) % l.length) z) := by
  constructor
  · intro h t ht
    have := h t
    rw [per_lt ht] at this
    exact this
  · intro h t
    have := h (t % l.length) (Nat.mod_lt _ h0)
    unfold per
    rwa [Nat.mod_add_mod] at this
end
section
/-- Which of two lists has the lesser one at the first place at which they part. -/
def lexB {α : Type} [DecidableEq α] (lt : α → α → Bool) : List α → List α → Bool
  | x :: a, y :: b => if x = y then lexB lt a b else lt x y
  | _, _ => false
/-- What a total order's test is. -/
structure Tot {α : Type} (lt : α → α → Bool) : Prop where
  irr : ∀ x, lt x x = false
  tr : ∀ x y z, lt x y = true → lt y z = true → lt x z = true
  tri : ∀ x y, lt x y = true ∨ x = y ∨ lt y x = true
variable {α : Type} [DecidableEq α] {lt : α → α → Bool} {z : α} {l r : List α}
theorem lex_iff (hT : Tot lt) : ∀ {a b : List α}, a.length = b.length → (lexB lt a b = true ↔ ∃ k, k < a.length ∧ (∀ t, t < k → a.getD t z = b.getD t z) ∧ lt (a.getD k z) (b.getD k z) = true)
  | [], [], _ => by simp [lexB]
  | x :: a, y :: b, h => by
    have ih := lex_iff hT (a := a) (b := b) (by simpa using h)
    unfold lexB
    by_cases e : x = y
    · subst e
      rw [if_pos rfl, ih]
      constructor
      · rintro ⟨k, h1, h2, h3⟩
        refine ⟨k + 1, by simpa using h1, fun t ht => ?_, by simpa using h3⟩
        cases t with
        | zero => simp
        | succ t => simpa using h2 t (by omega)
      · rintro ⟨k, h1, h2, h3⟩
        cases k with
        | zero => simp [hT.irr] at h3
        | succ k => exact ⟨k, by simpa using h1, fun t ht => by simpa using h2 (t + 1) (by omega), by simpa using h3⟩
    · rw [if_neg e]
      constructor
      · intro h3
        exact ⟨0, by simp, fun t ht => absurd ht (by omega), by simpa using h3⟩
      · rintro ⟨k, h1, h2, h3⟩
        cases k with
        | zero => simpa using h3
        | succ k => exact absurd (by simpa using h2 0 (by omega)) e
theorem lex_irr (hT : Tot lt) : ∀ a : List α, lexB lt a a = false
  | [] => rfl
  | x :: a => by unfold lexB; rw [if_pos rfl]; exact lex_irr hT a
theorem lex_tri (hT : Tot lt) : ∀ {a b : List α}, a.length = b.length → lexB lt a b = true ∨ a = b ∨ lexB lt b a = true
  | [], [], _ => .inr (.inl rfl)
  | x :: a, y :: b, h => by
    unfold lexB
    by_cases e : x = y
    · subst e
      rw [if_pos rfl, if_pos rfl]
      rcases lex_tri hT (a := a) (b := b) (by simpa using h) with h | h | h
      · exact .inl h
      · exact .inr (.inl (by rw [h]))
      · exact .inr (.inr h)
    · rw [if_neg e, if_neg (fun h => e h.symm)]
      rcases hT.tri x y with h | h | h
      · exact .inl h
      · exact absurd h e
      · exact .inr (.inr h)
theorem lex_trans (hT : Tot lt) : ∀ {a b c : List α}, a.length = b.length → lexB lt a b = true → lexB lt b c = true → lexB lt a c = true
  | [], _, _, _, h, _ => by simp [lexB] at h
  | _ :: _, [], _, _, h, _ => by simp [lexB] at h
  | _ :: _, _ :: _, [], _, _, h => by simp [lexB] at h
  | x :: a, y :: b, u :: c, h, h1, h2 => by
    unfold lexB at h1 h2 ⊢
    by_cases e : x = y
    · subst e
      rw [if_pos rfl] at h1
      by_cases e2 : x = u
      · subst e2
        rw [if_pos rfl] at h2 ⊢
        exact lex_trans hT (by simpa using h) h1 h2
      · rw [if_neg e2] at h2 ⊢
        exact h2
    · rw [if_neg e] at h1
      by_cases e2 : y = u
      · subst e2
        rw [if_neg e]
        exact h1
      · rw [if_neg e2] at h2
        have h3 := hT.tr _ _ _ h1 h2
        rw [if_neg (fun e3 => by rw [e3, hT.irr] at h3; cases h3)]
        exact h3
theorem lex_rlt (hT : Tot lt) {i j : Nat} (hi : i ≤ l.length) (hj : j ≤ l.length) : lexB lt (rot l i) (rot l j) = true ↔ Rlt (fun x y => lt x y = true) (per z l) l.length i j := by
  rw [lex_iff (z := z) hT (by rw [rot_len hi, rot_len hj]), rot_len hi]
  unfold Rlt
  constructor
  · rintro ⟨k, h1, h2, h3⟩
    exact ⟨k, h1, fun t ht => by rw [← rot_get hi (by omega), ← rot_get hj (by omega)]; exact h2 t ht, by rw [← rot_get hi h1, ← rot_get hj h1]; exact h3⟩
  · rintro ⟨k, h1, h2, h3⟩
    exact ⟨k, h1, fun t ht => by rw [rot_get hi (by omega), rot_get hj (by omega)]; exact h2 t ht, by rw [rot_get hi h1, rot_get hj h1]; exact h3⟩
/-- r is the one of l's turns that is ahead of all others. -/
def IsTurn (lt : α → α → Bool) (l r : List α) : Prop := (∃ m, m ≤ l.length ∧ r = rot l m) ∧ ∀ j, j ≤ l.length → lexB lt (rot l j) r = false
theorem IsTurn.len (h : IsTurn lt l r) : r.length = l.length := by
  obtain ⟨⟨m, hm, rfl⟩, _⟩ := h
  exact rot_len hm
theorem IsTurn.uniq (hT : Tot lt) (h : IsTurn lt l r) {r' : List α} (h' : IsTurn lt l r') : r = r' := by
  obtain ⟨⟨m, hm, e⟩, h1⟩ := h
  obtain ⟨⟨m', hm', e'⟩, h1'⟩ := h'
  rcases lex_tri hT (a := r) (b := r') (by rw [e, e', rot_len hm, rot_len hm']) with h | h | h
  · have := h1' m hm
    rw [← e, h] at this
    cases this
  · exact h
  · have := h1 m' hm'
    rw [← e', h] at this
    cases this
/-- What the two places tell. -/
theorem isTurn_first (hT : Tot lt) {m : Nat} (h : IsFirst (fun x y => lt x y = true) (per z l) l.length m) : IsTurn lt l (rot l m) := by
  refine ⟨⟨m, Nat.le_of_lt h.1, rfl⟩, fun j hj => ?_⟩
  cases e : lexB lt (rot l j) (rot l m) with
  | false => rfl
  | true => exact absurd ((lex_rlt (z := z) hT hj (Nat.le_of_lt h.1)).1 e) (h.2 j)
theorem IsTurn.rot (h : IsTurn lt l r) {i : Nat} (hi : i ≤ l.length) : IsTurn lt (rot l i) r := by
  obtain ⟨⟨m, hm, e⟩, h1⟩ := h
  refine ⟨?_, fun j hj => ?_⟩
  · obtain ⟨k, hk, ek⟩ := rot_rot (l := Wk.rot l i) (i := l.length - i) (j := m) (by rw [rot_len hi]; omega) (by rw [rot_len hi]; exact hm)
    rw [rot_back hi] at ek
    exact ⟨k, hk, e.trans ek⟩
  · obtain ⟨k, hk, ek⟩ := rot_rot hi (j := j) (by rw [rot_len hi] at hj; exact hj)
    rw [ek]
    exact h1 k hk
theorem IsTurn.self (h : IsTurn lt l r) : IsTurn lt r r := by
  obtain ⟨m, hm, e⟩ := h.1
  have := h.rot hm
  rwa [← e] at this
/-- The document's way to it. -/
def turnL (lt : α → α → Bool) (l : List α) : List α := (List.range l.length).foldl (fun out i => if lexB lt (rot l i) out = true then rot l i else out) l
theorem fold_turn (hT : Tot lt) : ∀ k, k ≤ l.length → ∃ m, m ≤ l.length ∧ (List.range k).foldl (fun out i => if lexB lt (rot l i) out = true then rot l i else out) l = rot l m ∧ ∀ j, j < k → lexB lt (rot l j) (rot l m) = false := by
  intro k
  induction k with
  | zero => exact fun _ => ⟨0, by omega, by simp [rot_zero], fun j hj => absurd hj (by omega)⟩
  | succ k ih =>
    intro hk
    obtain ⟨m, hm, e, h⟩ := ih (by omega)
    rw [List.range_succ, List.foldl_append, e]
    simp only [List.foldl_cons, List.foldl_nil]
    by_cases hl : lexB lt (rot l k) (rot l m) = true
    · rw [if_pos hl]
      refine ⟨k, by omega, rfl, fun j hj => ?_⟩
      by_cases e : j = k
      · subst e; exact lex_irr hT _
      · cases e2 : lexB lt (rot l j) (rot l k) with
        | false => rfl
        | true =>
          have := lex_trans hT (by rw [rot_len (by omega), rot_len (by omega)]) e2 hl
          rw [h j (by omega)] at this
          cases this
    · rw [if_neg hl]
      refine ⟨m, hm, rfl, fun j hj => ?_⟩
      by_cases e : j = k
      · subst e; simpa using hl
      · exact h j (by omega)
theorem turnL_is (hT : Tot lt) (l : List α) : IsTurn lt l (turnL lt l) := by
  obtain ⟨m, hm, e, h⟩ := fold_turn (l := l) hT l.length (Nat.le_refl _)
  unfold turnL
  rw [e]
  refine ⟨⟨m, hm, rfl⟩, fun j hj => ?_⟩
  by_cases e : j < l.length
  · exact h j e
  · have : j = l.length := by omega
    subst this
    rw [show rot l l.length = l by unfold rot; simp]
    by_cases h0 : 0 < l.length
    · have := h 0 h0
      rwa [rot_zero] at this
    · have : l = [] := List.length_eq_zero_iff.1 (by omega)
      subst this
      rfl
theorem turn_rot (hT : Tot lt) {i : Nat} (hi : i ≤ l.length) : turnL lt (rot l i) = turnL lt l := (turnL_is hT _).uniq hT ((turnL_is hT l).rot hi)
theorem turn_turn (hT : Tot lt) : turnL lt (turnL lt l) = turnL lt l := (turnL_is hT _).uniq hT (turnL_is hT l).self
theorem turn_len (hT : Tot lt) : (turnL lt l).length = l.length := (turnL_is hT l).len
theorem turn_mem (hT : Tot lt) (x : α) : x ∈ turnL lt l ↔ x ∈ l := by
  obtain ⟨m, _, e⟩ := (turnL_is hT l).1
  rw [e]
  unfold rot
  rw [List.mem_append, or_comm, ← List.mem_append, List.take_append_drop]
theorem turn_not (hT : Tot lt) : lexB lt l (turnL lt l) = false := by
  have := (turnL_is hT l).2 0 (by omega)
  rwa [rot_zero] at this
theorem turn_perm (hT : Tot lt) : (turnL lt l).Perm l := by
  obtain ⟨m, _, e⟩ := (turnL_is hT l).1
  rw [e]
  have := (List.perm_append_comm (l₁ := l.drop m) (l₂ := l.take m))
  rwa [List.take_append_drop] at this
theorem ring_turn (hT : Tot lt) {p : α → α → Prop} (h0 : 0 < l.length) : (∀ t, p (per z (turnL lt l) t) (per z (turnL lt l) (t + 1))) ↔ ∀ t, p (per z l t) (per z l (t + 1)) := by
  obtain ⟨m, hm, e⟩ := (turnL_is hT l).1
  rw [e]
  exact ring_rot hm h0
end
end Go.Proofs.YtjknnbeemcpppaaDoor.Wk
