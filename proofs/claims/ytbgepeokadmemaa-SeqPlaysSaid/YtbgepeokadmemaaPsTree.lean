/-
  Trees of numbers by places: what is put in, changed, taken out at a place. No program, no statement.
-/
import Derived.Test.YtbgepeokadmemaaHead1
namespace Go.Proofs.Ytbgepeokadmemaa.F
namespace Tre
/-- The numbers, from left to right. -/
def vals : Tre → List Int
  | nil => []
  | node l _ v r => l.vals ++ v :: r.vals
theorem vals_list (t : Tre) : t.vals = t.list.map (·.v) := by
  induction t with
  | nil => rfl
  | node l k v r h1 h2 => simp [vals, list, h1, h2]
theorem vals_len (t : Tre) : t.vals.length = t.size := by rw [vals_list, List.length_map, list_len]
theorem lev_vals (l : Tre) (k v : Int) (r : Tre) : (lev l k v r).vals = l.vals ++ v :: r.vals := by
  rw [vals_list, lev_list]; simp [vals_list]
theorem lev_size (l : Tre) (k v : Int) (r : Tre) : (lev l k v r).size = l.size + 1 + r.size := by
  rw [← vals_len, lev_vals, List.length_append, List.length_cons, vals_len, vals_len]; omega
/-- A tree, changed at a spot: the spots are gap, place, gap, .., gap. -/
def chg (f : Tre → Tre) : Int → Tre → Tre
  | _, nil => f nil
  | s, node l k v r => if s < 2 * (l.size : Int) + 1 then lev (chg f s l) 0 v r else if 2 * (l.size : Int) + 1 < s then lev l 0 v (chg f (s - (2 * (l.size : Int) + 1) - 1) r) else f (node l k v r)
theorem chg_bal {f : Tre → Tre} (hf : ∀ t, t.bal → (f t).bal ∧ t.high ≤ (f t).high + 1 ∧ (f t).high ≤ t.high + 1) (t : Tre) : ∀ s, t.bal → (chg f s t).bal ∧ t.high ≤ (chg f s t).high + 1 ∧ (chg f s t).high ≤ t.high + 1 := by
  induction t with
  | nil => exact fun s h => hf _ h
  | node l k v r h1 h2 =>
    intro s h
    have hb := h
    simp only [bal] at h
    obtain ⟨hl, hr, h3, h4⟩ := h
    simp only [chg]
    split
    · have h1 := h1 s hl
      by_cases e : (chg f s l).high ≤ r.high + 1 ∧ r.high ≤ (chg f s l).high + 1
      · rw [lev_high _ _ e.1 e.2]; simp only [bal, high]; refine ⟨⟨h1.1, hr, ?_, ?_⟩, ?_, ?_⟩ <;> omega
      · have := lev_bal 0 v h1.1 hr (by omega) (by omega); simp only [high]; refine ⟨this.1, ?_, ?_⟩ <;> omega
    · split
      · have h2 := h2 (s - (2 * (l.size : Int) + 1) - 1) hr
        generalize chg f (s - (2 * (l.size : Int) + 1) - 1) r = r' at h2
        by_cases e : l.high ≤ r'.high + 1 ∧ r'.high ≤ l.high + 1
        · rw [lev_high _ _ e.1 e.2]; simp only [bal, high]; refine ⟨⟨hl, h2.1, ?_, ?_⟩, ?_, ?_⟩ <;> omega
        · have := lev_bal 0 v hl h2.1 (by omega) (by omega); simp only [high]; refine ⟨this.1, ?_, ?_⟩ <;> omega
      · exact hf _ hb
/-- A number is put in at a place. -/
def insAt (i : Nat) (x : Int) (t : Tre) : Tre := chg (fun _ => node nil 0 x nil) (2 * (i : Int)) t
theorem insAt_vals (x : Int) (t : Tre) : ∀ i, i ≤ t.size → (insAt i x t).vals = t.vals.take i ++ x :: t.vals.drop i := by
  unfold insAt
  induction t with
  | nil => intro i hi; simp [size] at hi; subst hi; rfl
  | node l k v r h1 h2 =>
    intro i hi
    simp only [size] at hi
    simp only [chg, vals]
    split
    · have hl : i ≤ l.size := by omega
      rw [lev_vals, h1 i hl, List.take_append_of_le_length (by rw [vals_len]; exact hl), List.drop_append_of_le_length (by rw [vals_len]; exact hl)]
      simp
    · rw [if_pos (by omega)]
      obtain ⟨m, rfl⟩ : ∃ m, i = l.size + 1 + m := ⟨i - l.size - 1, by omega⟩
      rw [show 2 * ((l.size + 1 + m : Nat) : Int) - (2 * (l.size : Int) + 1) - 1 = 2 * (m : Int) by omega, lev_vals, h2 m (by omega)]
      rw [List.take_append, List.drop_append, vals_len, List.take_of_length_le (l := l.vals) (i := l.size + 1 + m) (by rw [vals_len]; omega), show l.vals.drop (l.size + 1 + m) = [] from List.drop_eq_nil_of_le (by rw [vals_len]; omega), show l.size + 1 + m - l.size = m + 1 by omega]
      simp
/-- A number is another one. -/
def setF (x : Int) : Tre → Tre
  | nil => nil
  | node l _ _ r => node l 0 x r
def setAt (i : Nat) (x : Int) (t : Tre) : Tre := chg (setF x) (2 * (i : Int) + 1) t
theorem setAt_vals (x : Int) (t : Tre) : ∀ i, i < t.size → (setAt i x t).vals = t.vals.set i x := by
  unfold setAt
  induction t with
  | nil => intro i hi; simp [size] at hi
  | node l k v r h1 h2 =>
    intro i hi
    simp only [size] at hi
    simp only [chg, vals]
    split
    · have hl : i < l.size := by omega
      rw [lev_vals, h1 i hl, List.set_append_left _ _ (by rw [vals_len]; exact hl)]
    · split
      · obtain ⟨m, rfl⟩ : ∃ m, i = l.size + 1 + m := ⟨i - l.size - 1, by omega⟩
        rw [show 2 * ((l.size + 1 + m : Nat) : Int) + 1 - (2 * (l.size : Int) + 1) - 1 = 2 * (m : Int) + 1 by omega, lev_vals, h2 m (by omega), List.set_append_right _ _ (by rw [vals_len]; omega), vals_len, show l.size + 1 + m - l.size = m + 1 by omega]
        rfl
      · obtain rfl : i = l.size := by omega
        rw [List.set_append_right _ _ (by rw [vals_len]; omega), vals_len, Nat.sub_self]
        rfl
/-- What two trees below one cell hold, without the cell. -/
def join : Tre → Tre → Tre
  | nil, r => r
  | node a b c d, nil => node a b c d
  | node a b c d, node e f g h => lev (node a b c d) 0 (pop (node e f g h)).1.v (pop (node e f g h)).2
theorem join_vals (l r : Tre) : (join l r).vals = l.vals ++ r.vals := by
  cases l with
  | nil => simp [join, vals]
  | node a b c d =>
    cases r with
    | nil => simp [join, vals]
    | node e f g h =>
      rw [join, lev_vals]
      congr 1
      have := pop_list (t := node e f g h) (by simp)
      rw [vals_list, vals_list (node e f g h), this]
      rfl
def delF : Tre → Tre
  | nil => nil
  | node l _ _ r => join l r
def delAt (i : Nat) (t : Tre) : Tre := chg delF (2 * (i : Int) + 1) t
theorem delAt_vals (t : Tre) : ∀ i, i < t.size → (delAt i t).vals = t.vals.eraseIdx i := by
  unfold delAt
  induction t with
  | nil => intro i hi; simp [size] at hi
  | node l k v r h1 h2 =>
    intro i hi
    simp only [size] at hi
    simp only [chg, vals]
    split
    · have hl : i < l.size := by omega
      rw [lev_vals, h1 i hl, List.eraseIdx_append_of_lt_length (by rw [vals_len]; exact hl)]
    · split
      · obtain ⟨m, rfl⟩ : ∃ m, i = l.size + 1 + m := ⟨i - l.size - 1, by omega⟩
        rw [show 2 * ((l.size + 1 + m : Nat) : Int) + 1 - (2 * (l.size : Int) + 1) - 1 = 2 * (m : Int) + 1 by omega, lev_vals, h2 m (by omega), List.eraseIdx_append_of_length_le (by rw [vals_len]; omega), vals_len, show l.size + 1 + m - l.size = m + 1 by omega]
        rfl
      · obtain rfl : i = l.size := by omega
        rw [List.eraseIdx_append_of_length_le (by rw [vals_len]; omega), vals_len, Nat.sub_self]
        simp [delF, join_vals]
theorem setF_bal (x : Int) (t : Tre) (h : t.bal) : (setF x t).bal ∧ t.high ≤ (setF x t).high + 1 ∧ (setF x t).high ≤ t.high + 1 := by
  cases t with
  | nil => simp [setF, bal, high]
  | node l k v r => simp only [setF, bal, high] at *; exact ⟨h, by omega, by omega⟩
theorem join_bal {l r : Tre} (hl : l.bal) (hr : r.bal) (h3 : l.high ≤ r.high + 1) (h4 : r.high ≤ l.high + 1) : (join l r).bal ∧ max l.high r.high ≤ (join l r).high ∧ (join l r).high ≤ 1 + max l.high r.high := by
  cases l with
  | nil => simp only [join, high] at *; refine ⟨hr, ?_, ?_⟩ <;> omega
  | node a b c d =>
    cases r with
    | nil => simp only [join, high] at *; refine ⟨hl, ?_, ?_⟩ <;> omega
    | node e f g h =>
      have h5 := pop_bal hr (by simp)
      rw [join]
      generalize (pop (node e f g h)).1.v = y
      generalize (pop (node e f g h)).2 = r' at h5 ⊢
      by_cases e2 : (node a b c d).high ≤ r'.high + 1
      · rw [lev_high _ _ (by omega) (by omega)]; simp only [bal]; refine ⟨⟨hl, h5.1, by omega, by omega⟩, ?_, ?_⟩ <;> (rw [show (node (node a b c d) 0 y r').high = 1 + max (node a b c d).high r'.high from rfl]; omega)
      · have := lev_bal 0 y hl h5.1 (by omega) (by omega); refine ⟨this.1, ?_, ?_⟩ <;> omega
theorem delF_bal (t : Tre) (h : t.bal) : (delF t).bal ∧ t.high ≤ (delF t).high + 1 ∧ (delF t).high ≤ t.high + 1 := by
  cases t with
  | nil => simp [delF, bal, high]
  | node l k v r =>
    simp only [bal] at h
    have := join_bal h.1 h.2.1 h.2.2.1 h.2.2.2
    rw [show (node l k v r).high = 1 + max l.high r.high from rfl]
    simp only [delF]
    refine ⟨this.1, ?_, ?_⟩ <;> omega
theorem insAt_bal' (x : Int) (t : Tre) : ∀ z : Int, t.bal → (chg (fun _ => node nil 0 x nil) (2 * z) t).bal ∧ t.high ≤ (chg (fun _ => node nil 0 x nil) (2 * z) t).high + 1 ∧ (chg (fun _ => node nil 0 x nil) (2 * z) t).high ≤ t.high + 1 := by
  induction t with
  | nil => intro z _; simp [chg, bal, high]
  | node l k v r h1 h2 =>
    intro z h
    simp only [bal] at h
    obtain ⟨hl, hr, h3, h4⟩ := h
    simp only [chg]
    split
    · have h1 := h1 z hl
      generalize chg (fun _ => node nil 0 x nil) (2 * z) l = l' at h1
      by_cases e : l'.high ≤ r.high + 1 ∧ r.high ≤ l'.high + 1
      · rw [lev_high _ _ e.1 e.2]; simp only [bal, high]; refine ⟨⟨h1.1, hr, ?_, ?_⟩, ?_, ?_⟩ <;> omega
      · have := lev_bal 0 v h1.1 hr (by omega) (by omega); simp only [high]; refine ⟨this.1, ?_, ?_⟩ <;> omega
    · rw [if_pos (by omega), show 2 * z - (2 * (l.size : Int) + 1) - 1 = 2 * (z - (l.size : Int) - 1) by omega]
      have h2 := h2 (z - (l.size : Int) - 1) hr
      generalize chg (fun _ => node nil 0 x nil) (2 * (z - (l.size : Int) - 1)) r = r' at h2
      by_cases e : l.high ≤ r'.high + 1 ∧ r'.high ≤ l.high + 1
      · rw [lev_high _ _ e.1 e.2]; simp only [bal, high]; refine ⟨⟨hl, h2.1, ?_, ?_⟩, ?_, ?_⟩ <;> omega
      · have := lev_bal 0 v hl h2.1 (by omega) (by omega); simp only [high]; refine ⟨this.1, ?_, ?_⟩ <;> omega
theorem insAt_bal (i : Nat) (x : Int) {t : Tre} (h : t.bal) : (insAt i x t).bal ∧ t.high ≤ (insAt i x t).high + 1 ∧ (insAt i x t).high ≤ t.high + 1 := insAt_bal' x t _ h
theorem setAt_bal (i : Nat) (x : Int) {t : Tre} (h : t.bal) : (setAt i x t).bal ∧ t.high ≤ (setAt i x t).high + 1 ∧ (setAt i x t).high ≤ t.high + 1 := chg_bal (setF_bal x) t _ h
theorem delAt_bal (i : Nat) {t : Tre} (h : t.bal) : (delAt i t).bal ∧ t.high ≤ (delAt i t).high + 1 ∧ (delAt i t).high ≤ t.high + 1 := chg_bal delF_bal t _ h
end Tre
end Go.Proofs.Ytbgepeokadmemaa.F
