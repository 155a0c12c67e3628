/-
  Trees of pairs, level by level: what is put in, taken out, turned. Not a statement of the seat.
-/
import Derived.Test.YtpmimngngehmlaaFPai
namespace Go.Proofs.Ytpmimngngehmlaa.F
/-- A tree of pairs. -/
inductive Tre where
  | nil
  | node (l : Tre) (k v : Int) (r : Tre)
namespace Tre
def size : Tre → Nat
  | nil => 0
  | node l _ _ r => l.size + 1 + r.size
def high : Tre → Nat
  | nil => 0
  | node l _ _ r => 1 + max l.high r.high
def list : Tre → List Pai
  | nil => []
  | node l k v r => l.list ++ ⟨k, v⟩ :: r.list
def bal : Tre → Prop
  | nil => True
  | node l _ _ r => l.bal ∧ r.bal ∧ l.high ≤ r.high + 1 ∧ r.high ≤ l.high + 1
theorem list_len (t : Tre) : t.list.length = t.size := by
  induction t with
  | nil => rfl
  | node l k v r h1 h2 => simp [list, size, h1, h2]; omega
theorem high_le_size (t : Tre) : t.high ≤ t.size := by
  induction t with
  | nil => simp [high]
  | node l k v r h1 h2 => simp only [high, size]; omega
/-- Two trees and what is between them, turned where they are not alike in height. -/
def turnR (l : Tre) (k v : Int) (r : Tre) : Tre := match l with
  | nil => node nil k v r
  | node ll lk lv lr => if lr.high ≤ ll.high then node ll lk lv (node lr k v r) else match lr with
    | nil => node (node ll lk lv nil) k v r
    | node m1 mk mv m2 => node (node ll lk lv m1) mk mv (node m2 k v r)
def turnL (l : Tre) (k v : Int) (r : Tre) : Tre := match r with
  | nil => node l k v nil
  | node rl rk rv rr => if rl.high ≤ rr.high then node (node l k v rl) rk rv rr else match rl with
    | nil => node l k v (node nil rk rv rr)
    | node m1 mk mv m2 => node (node l k v m1) mk mv (node m2 rk rv rr)
def lev (l : Tre) (k v : Int) (r : Tre) : Tre :=
  if r.high + 1 < l.high then turnR l k v r else if l.high + 1 < r.high then turnL l k v r else node l k v r
theorem turnR_list (l : Tre) (k v : Int) (r : Tre) : (turnR l k v r).list = l.list ++ ⟨k, v⟩ :: r.list := by
  unfold turnR
  split
  · rfl
  · split
    · simp [list]
    · split <;> simp [list]
theorem turnL_list (l : Tre) (k v : Int) (r : Tre) : (turnL l k v r).list = l.list ++ ⟨k, v⟩ :: r.list := by
  unfold turnL
  split
  · rfl
  · split
    · simp [list]
    · split <;> simp [list]
theorem lev_list (l : Tre) (k v : Int) (r : Tre) : (lev l k v r).list = l.list ++ ⟨k, v⟩ :: r.list := by
  unfold lev
  split
  · exact turnR_list ..
  · split
    · exact turnL_list ..
    · rfl
theorem turnR_bal {l r : Tre} (k v : Int) (hl : l.bal) (hr : r.bal) (h : l.high = r.high + 2) : (turnR l k v r).bal ∧ l.high ≤ (turnR l k v r).high ∧ (turnR l k v r).high ≤ l.high + 1 := by
  unfold turnR
  cases l with
  | nil => simp [high] at h
  | node ll lk lv lr =>
    simp only [bal, high] at hl h ⊢
    split
    · simp only [bal, high]; obtain ⟨h1, h2, h3, h4⟩ := hl; refine ⟨⟨h1, ⟨h2, hr, ?_, ?_⟩, ?_, ?_⟩, ?_, ?_⟩ <;> omega
    · cases lr with
      | nil => simp only [high] at *; omega
      | node m1 mk mv m2 =>
        simp only [bal, high] at *; obtain ⟨h1, ⟨h21, h22, h23, h24⟩, h3, h4⟩ := hl; refine ⟨⟨⟨h1, h21, ?_, ?_⟩, ⟨h22, hr, ?_, ?_⟩, ?_, ?_⟩, ?_, ?_⟩ <;> omega
theorem turnL_bal {l r : Tre} (k v : Int) (hl : l.bal) (hr : r.bal) (h : r.high = l.high + 2) : (turnL l k v r).bal ∧ r.high ≤ (turnL l k v r).high ∧ (turnL l k v r).high ≤ r.high + 1 := by
  unfold turnL
  cases r with
  | nil => simp [high] at h
  | node rl rk rv rr =>
    simp only [bal, high] at hr h ⊢
    split
    · simp only [bal, high]; obtain ⟨h1, h2, h3, h4⟩ := hr; refine ⟨⟨⟨hl, h1, ?_, ?_⟩, h2, ?_, ?_⟩, ?_, ?_⟩ <;> omega
    · cases rl with
      | nil => simp only [high] at *; omega
      | node m1 mk mv m2 =>
        simp only [bal, high] at *; obtain ⟨⟨h11, h12, h13, h14⟩, h2, h3, h4⟩ := hr; refine ⟨⟨⟨hl, h11, ?_, ?_⟩, ⟨h12, h2, ?_, ?_⟩, ?_, ?_⟩, ?_, ?_⟩ <;> omega
theorem lev_bal {l r : Tre} (k v : Int) (hl : l.bal) (hr : r.bal) (h1 : l.high ≤ r.high + 2) (h2 : r.high ≤ l.high + 2) : (lev l k v r).bal ∧ max l.high r.high ≤ (lev l k v r).high ∧ (lev l k v r).high ≤ max l.high r.high + 1 := by
  unfold lev
  split
  · have := turnR_bal k v hl hr (by omega); refine ⟨this.1, ?_, ?_⟩ <;> omega
  · split
    · have := turnL_bal k v hl hr (by omega); refine ⟨this.1, ?_, ?_⟩ <;> omega
    · simp only [bal, high]; refine ⟨⟨hl, hr, ?_, ?_⟩, ?_, ?_⟩ <;> omega
theorem lev_high {l r : Tre} (k v : Int) (h1 : l.high ≤ r.high + 1) (h2 : r.high ≤ l.high + 1) : lev l k v r = node l k v r := by
  unfold lev
  rw [if_neg (by omega), if_neg (by omega)]
/-- A pair put in. -/
def ins (key val : Int) : Tre → Tre
  | nil => node nil key val nil
  | node l k v r => if key < k then lev (ins key val l) k v r else if k < key then lev l k v (ins key val r) else lev l k val r
theorem ins_bal (key val : Int) {t : Tre} (h : t.bal) : (ins key val t).bal ∧ t.high ≤ (ins key val t).high ∧ (ins key val t).high ≤ t.high + 1 := by
  induction t with
  | nil => simp [ins, bal, high]
  | node l k v r h1 h2 =>
    simp only [bal] at h
    obtain ⟨hl, hr, h3, h4⟩ := h
    have h1 := h1 hl
    have h2 := h2 hr
    simp only [ins]
    split
    · by_cases e : (ins key val l).high ≤ r.high + 1
      · rw [lev_high _ _ (by omega) (by omega)]; simp only [bal, high]; refine ⟨⟨h1.1, hr, ?_, ?_⟩, ?_, ?_⟩ <;> omega
      · have := lev_bal k v h1.1 hr (by omega) (by omega); simp only [high]; refine ⟨this.1, ?_, ?_⟩ <;> omega
    · split
      · by_cases e : (ins key val r).high ≤ l.high + 1
        · rw [lev_high _ _ (by omega) (by omega)]; simp only [bal, high]; refine ⟨⟨hl, h2.1, ?_, ?_⟩, ?_, ?_⟩ <;> omega
        · have := lev_bal k v hl h2.1 (by omega) (by omega); simp only [high]; refine ⟨this.1, ?_, ?_⟩ <;> omega
      · rw [lev_high _ _ (by omega) (by omega)]; simp only [bal, high]; refine ⟨⟨hl, hr, ?_, ?_⟩, ?_, ?_⟩ <;> omega
/-- The first pair, and a tree of the others. -/
def pop : Tre → Pai × Tre
  | nil => (Pai.zero, nil)
  | node nil k v r => (⟨k, v⟩, r)
  | node (node a b c d) k v r => ((pop (node a b c d)).1, lev (pop (node a b c d)).2 k v r)
theorem pop_node (l : Tre) (k v : Int) (r : Tre) (h : l ≠ nil) : pop (node l k v r) = ((pop l).1, lev (pop l).2 k v r) := by
  cases l with
  | nil => exact absurd rfl h
  | node => rfl
theorem pop_list {t : Tre} (h : t ≠ nil) : t.list = (pop t).1 :: (pop t).2.list := by
  induction t with
  | nil => exact absurd rfl h
  | node l k v r h1 _ =>
    cases l with
    | nil => rfl
    | node a b c d =>
      have := h1 (by simp)
      rw [pop_node _ _ _ _ (by simp), lev_list, list, this]
      rfl
theorem pop_bal {t : Tre} (h : t.bal) (hn : t ≠ nil) : (pop t).2.bal ∧ t.high ≤ (pop t).2.high + 1 ∧ (pop t).2.high ≤ t.high := by
  induction t with
  | nil => exact absurd rfl hn
  | node l k v r h1 _ =>
    simp only [bal] at h
    obtain ⟨hl, hr, h3, h4⟩ := h
    cases l with
    | nil => simp only [pop, high] at *; refine ⟨hr, ?_, ?_⟩ <;> omega
    | node a b c d =>
      have h1 := h1 hl (by simp)
      rw [pop_node _ _ _ _ (by simp)]
      generalize node a b c d = l at *
      simp only [high]
      by_cases e : r.high ≤ (pop l).2.high + 1
      · rw [lev_high _ _ (by omega) (by omega)]; simp only [bal, high]; refine ⟨⟨h1.1, hr, ?_, ?_⟩, ?_, ?_⟩ <;> omega
      · have := lev_bal k v h1.1 hr (by omega) (by omega); refine ⟨this.1, ?_, ?_⟩ <;> omega
/-- A key taken out. -/
def del (key : Int) : Tre → Tre
  | nil => nil
  | node l k v r => if key < k then lev (del key l) k v r else if k < key then lev l k v (del key r)
    else match l with
      | nil => r
      | node a b c d => match r with
        | nil => node a b c d
        | node e f g h => lev (node a b c d) (pop (node e f g h)).1.k (pop (node e f g h)).1.v (pop (node e f g h)).2
theorem del_eq (l : Tre) (k v : Int) (r : Tre) (hl : l ≠ nil) (hr : r ≠ nil) : del k (node l k v r) = lev l (pop r).1.k (pop r).1.v (pop r).2 := by
  cases l with
  | nil => exact absurd rfl hl
  | node => cases r with
    | nil => exact absurd rfl hr
    | node => simp [del]
theorem del_bal (key : Int) {t : Tre} (h : t.bal) : (del key t).bal ∧ t.high ≤ (del key t).high + 1 ∧ (del key t).high ≤ t.high := by
  induction t with
  | nil => simp [del, bal, high]
  | node l k v r h1 h2 =>
    simp only [bal] at h
    obtain ⟨hl, hr, h3, h4⟩ := h
    have h1 := h1 hl
    have h2 := h2 hr
    by_cases c1 : key < k
    · simp only [del, if_pos c1]
      by_cases e : r.high ≤ (del key l).high + 1
      · rw [lev_high _ _ (by omega) (by omega)]; simp only [bal, high]; refine ⟨⟨h1.1, hr, ?_, ?_⟩, ?_, ?_⟩ <;> omega
      · have := lev_bal k v h1.1 hr (by omega) (by omega); simp only [high]; refine ⟨this.1, ?_, ?_⟩ <;> omega
    · by_cases c2 : k < key
      · simp only [del, if_neg c1, if_pos c2]
        by_cases e : l.high ≤ (del key r).high + 1
        · rw [lev_high _ _ (by omega) (by omega)]; simp only [bal, high]; refine ⟨⟨hl, h2.1, ?_, ?_⟩, ?_, ?_⟩ <;> omega
        · have := lev_bal k v hl h2.1 (by omega) (by omega); simp only [high]; refine ⟨this.1, ?_, ?_⟩ <;> omega
      · obtain rfl : key = k := by omega
        by_cases e1 : l = nil
        · subst e1; simp only [del, if_neg c1, high] at *; refine ⟨hr, ?_, ?_⟩ <;> omega
        · by_cases e2 : r = nil
          · subst e2
            cases l with
            | nil => exact absurd rfl e1
            | node => simp only [del, if_neg c1, high] at *; refine ⟨hl, ?_, ?_⟩ <;> omega
          · rw [del_eq _ _ _ _ e1 e2]
            have h5 := pop_bal hr e2
            by_cases e : l.high ≤ (pop r).2.high + 1
            · rw [lev_high _ _ (by omega) (by omega)]; simp only [bal, high]; refine ⟨⟨hl, h5.1, ?_, ?_⟩, ?_, ?_⟩ <;> omega
            · have := lev_bal (pop r).1.k (pop r).1.v hl h5.1 (by omega) (by omega); simp only [high]; refine ⟨this.1, ?_, ?_⟩ <;> omega
end Tre
end Go.Proofs.Ytpmimngngehmlaa.F
