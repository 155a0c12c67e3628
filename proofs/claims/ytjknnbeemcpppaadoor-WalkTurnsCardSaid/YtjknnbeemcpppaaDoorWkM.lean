/-
  The first of all turns of a ring, pure: what the two places on the way leave out. Not a statement of the seat.
-/
import Derived.WalkKit
namespace Go.Proofs.YtjknnbeemcpppaaDoor.Wk
section
variable {α : Type} (lt : α → α → Prop) (f : Nat → α) (n : Nat)
/-- The ring from i on is ahead of what it is from j on: they part at a place below n. -/
def Rlt (i j : Nat) : Prop := ∃ k, k < n ∧ (∀ t, t < k → f (i + t) = f (j + t)) ∧ lt (f (i + k)) (f (j + k))
def Beaten (i : Nat) : Prop := ∃ j, Rlt lt f n j i
/-- Where two places are on the way. -/
structure Two (a b s : Nat) : Prop where
  ne : a ≠ b
  le : s ≤ n
  low : a < n ∨ b < n
  same : ∀ t, t < s → f (a + t) = f (b + t)
  out : ∀ i, i < n → Beaten lt f n i ∨ i = a ∨ i = b ∨ (a < i ∧ b < i)
variable {lt f n}
theorem Rlt.trans (ht : ∀ x y z, lt x y → lt y z → lt x z) {i j k : Nat} (h1 : Rlt lt f n i j) (h2 : Rlt lt f n j k) : Rlt lt f n i k := by
  obtain ⟨p, hp, ep, lp⟩ := h1
  obtain ⟨q, hq, eq, lq⟩ := h2
  rcases Nat.lt_trichotomy p q with h | h | h
  · exact ⟨p, hp, fun t h' => (ep t h').trans (eq t (by omega)), by rw [← eq p h]; exact lp⟩
  · subst h
    exact ⟨p, hp, fun t h' => (ep t h').trans (eq t h'), ht _ _ _ lp lq⟩
  · exact ⟨q, hq, fun t h' => (ep t (by omega)).trans (eq t h'), by rw [ep q h]; exact lq⟩
theorem Rlt.irrefl (hi : ∀ x, ¬ lt x x) (i : Nat) : ¬ Rlt lt f n i i := fun ⟨_, _, _, h⟩ => hi _ h
theorem rlt_tri (hc : ∀ x y, lt x y ∨ x = y ∨ lt y x) (i j : Nat) : Rlt lt f n i j ∨ Rlt lt f n j i ∨ ∀ t, t < n → f (i + t) = f (j + t) := by
  have : ∀ k, k ≤ n → Rlt lt f n i j ∨ Rlt lt f n j i ∨ ∀ t, t < k → f (i + t) = f (j + t) := by
    intro k
    induction k with
    | zero => intro _; exact .inr (.inr fun t h => absurd h (by omega))
    | succ k ih =>
      intro hk
      rcases ih (by omega) with h | h | h
      · exact .inl h
      · exact .inr (.inl h)
      · rcases hc (f (i + k)) (f (j + k)) with e | e | e
        · exact .inl ⟨k, by omega, h, e⟩
        · refine .inr (.inr fun t ht => ?_)
          rcases Nat.lt_or_ge t k with h' | h'
          · exact h t h'
          · rw [show t = k by omega]; exact e
        · exact .inr (.inl ⟨k, by omega, fun t h' => (h t h').symm, e⟩)
  exact this n (Nat.le_refl _)
theorem Rlt.mod (hp : ∀ i, f (i + n) = f i) {i j : Nat} (h : Rlt lt f n (i + n) j) : Rlt lt f n i j := by
  obtain ⟨k, hk, e, l⟩ := h
  exact ⟨k, hk, fun t ht => by rw [← e t ht, show i + n + t = i + t + n by omega, hp], by rwa [show i + n + k = i + k + n by omega, hp] at l⟩
theorem Rlt.mods (hp : ∀ i, f (i + n) = f i) {i j : Nat} : ∀ m, Rlt lt f n (i + m * n) j → Rlt lt f n i j
  | 0, h => by simpa using h
  | m + 1, h => Rlt.mods hp m (Rlt.mod hp (by rwa [Nat.succ_mul, ← Nat.add_assoc] at h))
/-- Who is worse at a place is worse from all the places before it on. -/
theorem rlt_shift {a b s : Nat} (hs : s < n) (he : ∀ t, t < s → f (a + t) = f (b + t)) (hl : lt (f (b + s)) (f (a + s))) {k : Nat} (hk : k ≤ s) : Rlt lt f n (b + k) (a + k) :=
  ⟨s - k, by omega, fun t ht => by rw [Nat.add_assoc, Nat.add_assoc]; exact (he _ (by omega)).symm, by rw [show b + k + (s - k) = b + s by omega, show a + k + (s - k) = a + s by omega]; exact hl⟩
theorem Two.start (hn : 0 < n) : Two lt f n 0 1 0 :=
  ⟨by omega, by omega, by omega, fun t h => absurd h (by omega), fun i _ => .inr (by omega)⟩
theorem Two.swap {a b s : Nat} (h : Two lt f n a b s) : Two lt f n b a s :=
  ⟨h.ne.symm, h.le, h.low.symm, fun t ht => (h.same t ht).symm, fun i hi => (h.out i hi).imp id (by omega)⟩
theorem Two.same' {a b s : Nat} (h : Two lt f n a b s) (hs : s < n) (he : f (a + s) = f (b + s)) : Two lt f n a b (s + 1) :=
  ⟨h.ne, by omega, h.low, fun t ht => by
    rcases Nat.lt_or_ge t s with h' | h'
    · exact h.same t h'
    · rw [show t = s by omega]; exact he, h.out⟩
/-- The first place is worse, and goes on. -/
theorem Two.worse {a b s : Nat} (h : Two lt f n a b s) (hs : s < n) (hb : b < n) (hl : lt (f (b + s)) (f (a + s))) :
    Two lt f n (a + (s + 1)) (if a + (s + 1) = b then b + 1 else b) 0 := by
  have hbt : ∀ i, a ≤ i → i ≤ a + s → Beaten lt f n i := fun i h1 h2 => ⟨b + (i - a), by
    have := rlt_shift (k := i - a) hs h.same hl (by omega)
    rwa [show a + (i - a) = i by omega] at this⟩
  refine ⟨by split <;> omega, by omega, ?_, fun t ht => absurd ht (by omega), fun i hi => ?_⟩
  · split
    · left; omega
    · right; exact hb
  · by_cases hr : a ≤ i ∧ i ≤ a + s
    · exact .inl (hbt i hr.1 hr.2)
    · rcases h.out i hi with h' | h' | h' | h'
      · exact .inl h'
      · exfalso; omega
      · split
        · right; left; omega
        · right; right; left; exact h'
      · split
        · by_cases e : i = b + 1
          · exact .inr (.inr (.inl e))
          · right; right; right; omega
        · by_cases e : i = a + (s + 1)
          · exact .inr (.inl e)
          · right; right; right; omega
theorem exists_first (ht : ∀ x y z, lt x y → lt y z → lt x z) (hi : ∀ x, ¬ lt x x) (hn : 0 < n) : ∃ m, m < n ∧ ∀ j, j < n → ¬ Rlt lt f n j m := by
  have : ∀ k, 0 < k → ∃ m, m < k ∧ ∀ j, j < k → ¬ Rlt lt f n j m := by
    intro k
    induction k with
    | zero => intro h; omega
    | succ k ih =>
      intro _
      by_cases hk : 0 < k
      · obtain ⟨m, hm, h⟩ := ih hk
        by_cases hx : Rlt lt f n k m
        · refine ⟨k, by omega, fun j hj hr => ?_⟩
          by_cases e : j = k
          · subst e; exact Rlt.irrefl hi _ hr
          · exact h j (by omega) (hr.trans ht hx)
        · refine ⟨m, by omega, fun j hj => ?_⟩
          by_cases e : j = k
          · subst e; exact hx
          · exact h j (by omega)
      · exact ⟨0, by omega, fun j hj => by rw [show j = 0 by omega]; exact Rlt.irrefl hi _⟩
  exact this n hn
/-- None of all places is ahead of this one. -/
def IsFirst (lt : α → α → Prop) (f : Nat → α) (n m : Nat) : Prop := m < n ∧ ∀ j, ¬ Rlt lt f n j m
theorem first_any (ht : ∀ x y z, lt x y → lt y z → lt x z) (hi : ∀ x, ¬ lt x x) (hp : ∀ i, f (i + n) = f i) (hn : 0 < n) : ∃ m, IsFirst lt f n m := by
  obtain ⟨m, hm, h⟩ := exists_first (lt := lt) (f := f) ht hi hn
  refine ⟨m, hm, fun j hr => h (j % n) (Nat.mod_lt _ hn) (Rlt.mods hp (j / n) ?_)⟩
  have := Nat.mod_add_div j n
  rwa [Nat.mul_comm, this]
/-- One of the two has gone beyond the end: the other one is first. -/
theorem Two.over (ht : ∀ x y z, lt x y → lt y z → lt x z) (hi : ∀ x, ¬ lt x x) (hp : ∀ i, f (i + n) = f i) {a b s : Nat} (h : Two lt f n a b s) (hn : n ≤ a ∨ n ≤ b) : IsFirst lt f n (min a b) := by
  obtain ⟨m, hm, hf⟩ := first_any (lt := lt) ht hi hp (show 0 < n by have := h.low; omega)
  have hl := h.low
  have : m = min a b := by
    rcases h.out m hm with ⟨j, hj⟩ | h' | h' | h'
    · exact absurd hj (hf j)
    · omega
    · omega
    · omega
  rw [← this]
  exact ⟨hm, hf⟩
theorem rlt_eq {a b : Nat} (he : ∀ t, t < n → f (a + t) = f (b + t)) {j : Nat} (h : Rlt lt f n j a) : Rlt lt f n j b := by
  obtain ⟨k, hk, e, l⟩ := h
  exact ⟨k, hk, fun t ht => (e t ht).trans (he t (by omega)), by rw [← he k hk]; exact l⟩
/-- The two have been held against one another all round. -/
theorem Two.round_ (ht : ∀ x y z, lt x y → lt y z → lt x z) (hi : ∀ x, ¬ lt x x) (hp : ∀ i, f (i + n) = f i) {a b : Nat} (h : Two lt f n a b n) : IsFirst lt f n (min a b) := by
  have hl := h.low
  have hn : 0 < n := by omega
  have per : ∀ i, f (a + i) = f (b + i) := by
    intro i
    have h1 := h.same (i % n) (Nat.mod_lt _ hn)
    have key : ∀ (c k m : Nat), f (c + (k + m * n)) = f (c + k) := by
      intro c k m
      induction m with
      | zero => simp
      | succ m ih => rw [Nat.succ_mul, show c + (k + (m * n + n)) = c + (k + m * n) + n by omega, hp, ih]
    have e := Nat.mod_add_div i n
    rw [Nat.mul_comm] at e
    rw [← e, key, key]
    exact h1
  obtain ⟨m, hm, hf⟩ := first_any (lt := lt) ht hi hp hn
  -- by the two's distance down from m to one of them
  have down : ∀ k m, m ≤ k → m < n → (∀ j, ¬ Rlt lt f n j m) → ∀ j, ¬ Rlt lt f n j (min a b) := by
    intro k
    induction k with
    | zero =>
      intro m hk hm hf j hj
      rcases h.out m hm with hb | e | e | e
      · obtain ⟨x, hx⟩ := hb; exact hf x hx
      · have : min a b = m := by omega
        rw [this] at hj; exact hf j hj
      · have : min a b = m := by omega
        rw [this] at hj; exact hf j hj
      · omega
    | succ k ih =>
      intro m hk hm hf
      rcases h.out m hm with hb | e | e | e
      · obtain ⟨x, hx⟩ := hb; exact absurd hx (hf x)
      · intro j hj
        rcases Nat.lt_or_ge a b with q | q
        · rw [Nat.min_eq_left (by omega), ← e] at hj; exact hf j hj
        · rw [Nat.min_eq_right q] at hj
          exact hf j (e ▸ rlt_eq (a := b) (b := a) (fun t _ => (per t).symm) hj)
      · intro j hj
        rcases Nat.lt_or_ge a b with q | q
        · rw [Nat.min_eq_left (by omega)] at hj
          exact hf j (e ▸ rlt_eq (a := a) (b := b) (fun t _ => per t) hj)
        · rw [Nat.min_eq_right q, ← e] at hj; exact hf j hj
      · have hne := h.ne
        rcases Nat.lt_or_ge a b with q | q
        · refine ih (m - (b - a)) (by omega) (by omega) fun j hj => hf j ?_
          refine rlt_eq (a := m - (b - a)) (fun t _ => ?_) hj
          have := per (m - b + t)
          rw [show m - (b - a) + t = a + (m - b + t) by omega, this]
          congr 1; omega
        · refine ih (m - (a - b)) (by omega) (by omega) fun j hj => hf j ?_
          refine rlt_eq (a := m - (a - b)) (fun t _ => ?_) hj
          have := per (m - a + t)
          rw [show m - (a - b) + t = b + (m - a + t) by omega, ← this]
          congr 1; omega
  exact ⟨by omega, down m m (Nat.le_refl _) hm hf⟩
end
end Go.Proofs.YtjknnbeemcpppaaDoor.Wk
