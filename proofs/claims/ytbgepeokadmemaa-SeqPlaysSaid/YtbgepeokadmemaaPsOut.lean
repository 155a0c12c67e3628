/-
  What an editor's call makes of a tree, where a call that found no room tells 0; levels behind it; a tree changed at a spot. Not a statement of the seat.
-/
import Derived.Test.YtbgepeokadmemaaPsTr
namespace Go.Proofs.Ytbgepeokadmemaa.F
open Go.ChangeShapes Go.WideShapes Go.ChangeAt Go.RowKit Base
/-- As Out; where there was no room, 0 is told. -/
def OutZ (room : Nat) (zs : List Cel) (n : Nat) (T : Tre) (R : List Cel × Int × Int) : Prop := Out room zs n T R ∧ (R.2.1 = 2 → R.2.2 = 0)
theorem OutZ.mono {room : Nat} {zs : List Cel} {n m : Nat} {T : Tre} {R : List Cel × Int × Int} (h : OutZ room zs n T R) (hn : n ≤ m) : OutZ room zs m T R := ⟨h.1.mono hn, h.2⟩
theorem turnRS_no {room : Nat} {zs : List Cel} (why val right : Int) (c : Cel) (h : zs.length = room) : turnRS room zs why c val right = (zs, 2, 0) := by
  unfold turnRS
  split <;> simp only [putM_no _ _ h]
theorem turnLS_no {room : Nat} {zs : List Cel} (why left val : Int) (c : Cel) (h : zs.length = room) : turnLS room zs why left val c = (zs, 2, 0) := by
  unfold turnLS
  split <;> simp only [putM_no _ _ h]
theorem levelS_no {room : Nat} {zs : List Cel} (why left val right : Int) (h : zs.length = room) : levelS room zs why left val right = (zs, 2, 0) := by
  unfold levelS
  split
  · exact turnRS_no _ _ _ _ h
  · split
    · exact turnLS_no _ _ _ _ h
    · exact putM_no _ _ h
theorem putM_z (room : Nat) (zs : List Cel) (why : Int) (c : Cel) : (putM room zs why c).2.1 = 2 → why ≠ 2 → (putM room zs why c).2.2 = 0 := by
  unfold putM
  split
  · intro h hw; exact absurd h hw
  · intro _ _; rfl
theorem putM_full {room : Nat} {zs : List Cel} (c : Cel) (hz : zs.length ≤ room) : ((putM room zs 0 c).2.1 = 0 ∧ (putM room zs 0 c).1.length ≤ room) ∨ ((putM room zs 0 c).2.1 = 2 ∧ (putM room zs 0 c).1.length = room) := by
  by_cases h : zs.length < room
  · rw [putM_yes _ _ h]; exact .inl ⟨rfl, by simp; omega⟩
  · rw [putM_no _ _ (by omega)]; exact .inr ⟨rfl, by show zs.length = room; omega⟩
theorem putM_step {room : Nat} {R : List Cel × Int × Int} (c : Cel) (h : (R.2.1 = 0 ∧ R.1.length ≤ room) ∨ (R.2.1 = 2 ∧ R.1.length = room)) : (((putM room R.1 R.2.1 c).2.1 = 0 ∧ (putM room R.1 R.2.1 c).1.length ≤ room) ∨ ((putM room R.1 R.2.1 c).2.1 = 2 ∧ (putM room R.1 R.2.1 c).1.length = room)) ∧ ((putM room R.1 R.2.1 c).2.1 = 2 → (putM room R.1 R.2.1 c).2.2 = 0) := by
  rcases h with ⟨h1, h2⟩ | ⟨h1, h2⟩
  · rw [h1]
    exact ⟨putM_full c h2, fun e => putM_z _ _ _ _ e (by decide)⟩
  · rw [putM_no _ _ h2]
    exact ⟨.inr ⟨rfl, h2⟩, fun _ => rfl⟩
theorem levelS_z {room : Nat} {zs : List Cel} (left val right : Int) (hz : zs.length ≤ room) : (levelS room zs 0 left val right).2.1 = 2 → (levelS room zs 0 left val right).2.2 = 0 := by
  unfold levelS turnRS turnLS
  split
  · split
    · exact (putM_step _ (putM_full _ hz)).2
    · exact (putM_step _ (putM_step _ (putM_full _ hz)).1).2
  · split
    · split
      · exact (putM_step _ (putM_full _ hz)).2
      · exact (putM_step _ (putM_step _ (putM_full _ hz)).1).2
    · exact fun e => putM_z _ _ _ _ e (by decide)
/-- The level behind a call that made the left tree, or the right one. -/
theorem outZ_left {room : Nat} {zs : List Cel} {n : Nat} {T r : Tre} {R : List Cel × Int × Int} {b v : Int} (hR : OutZ room zs n T R) (hr : Tr zs r b) (kT : K0 T) (kr : K0 r) (h1 : T.size ≤ 1000000) (h2 : r.size ≤ 1000000) (hb : R.1.length ≤ room) : OutZ room zs (n + 3) (Tre.lev T 0 v r) (levelS room R.1 R.2.1 R.2.2 v b) := by
  obtain ⟨zs1, why1, i1⟩ := R
  obtain ⟨⟨new, he, h⟩, hz⟩ := hR
  rcases h with h | h
  · simp only at he h hb ⊢
    obtain ⟨rfl, ht, hn⟩ := h
    subst he
    refine ⟨?_, levelS_z _ _ _ hb⟩
    obtain ⟨new2, he2, h3⟩ := levelS_out (val := v) hb ht (hr.append new) kT kr h1 h2
    refine ⟨new ++ new2, by rw [he2, List.append_assoc], ?_⟩
    rcases h3 with ⟨x1, x2, x3⟩ | ⟨x1, x2, x3, x4⟩
    · exact .inl ⟨x1, x2, by rw [List.length_append]; omega⟩
    · exact .inr ⟨x1, x2, by rw [List.length_append] at x3; omega, x4⟩
  · simp only at he h hb ⊢
    obtain ⟨rfl, hf, hn, _⟩ := h
    subst he
    rw [levelS_no _ _ _ _ hf]
    exact ⟨⟨new, rfl, .inr ⟨rfl, hf, by omega, Int.le_refl _, Int.natCast_nonneg _⟩⟩, fun _ => rfl⟩
theorem outZ_right {room : Nat} {zs : List Cel} {n : Nat} {T l : Tre} {R : List Cel × Int × Int} {a v : Int} (hR : OutZ room zs n T R) (hl : Tr zs l a) (kT : K0 T) (kl : K0 l) (h1 : T.size ≤ 1000000) (h2 : l.size ≤ 1000000) (hb : R.1.length ≤ room) : OutZ room zs (n + 3) (Tre.lev l 0 v T) (levelS room R.1 R.2.1 a v R.2.2) := by
  obtain ⟨zs1, why1, i1⟩ := R
  obtain ⟨⟨new, he, h⟩, hz⟩ := hR
  rcases h with h | h
  · simp only at he h hb ⊢
    obtain ⟨rfl, ht, hn⟩ := h
    subst he
    refine ⟨?_, levelS_z _ _ _ hb⟩
    obtain ⟨new2, he2, h3⟩ := levelS_out (val := v) hb (hl.append new) ht kl kT h2 h1
    refine ⟨new ++ new2, by rw [he2, List.append_assoc], ?_⟩
    rcases h3 with ⟨x1, x2, x3⟩ | ⟨x1, x2, x3, x4⟩
    · exact .inl ⟨x1, x2, by rw [List.length_append]; omega⟩
    · exact .inr ⟨x1, x2, by rw [List.length_append] at x3; omega, x4⟩
  · simp only at he h hb ⊢
    obtain ⟨rfl, hf, hn, _⟩ := h
    subst he
    rw [levelS_no _ _ _ _ hf]
    exact ⟨⟨new, rfl, .inr ⟨rfl, hf, by omega, Int.le_refl _, Int.natCast_nonneg _⟩⟩, fun _ => rfl⟩
/-- How high the cell that a call told stands. -/
theorem OutZ.high {room : Nat} {zs : List Cel} {n : Nat} {T : Tre} {R : List Cel × Int × Int} (h : OutZ room zs n T R) (hT : T.size ≤ 1000000) : 0 ≤ (celAt R.1 R.2.2).h ∧ (celAt R.1 R.2.2).h ≤ 2000000 := by
  obtain ⟨⟨new, he, h1⟩, hz⟩ := h
  rcases h1 with ⟨_, ht, _⟩ | ⟨h2, _⟩
  · rw [ht.root.2]
    have := T.high_le_size
    omega
  · rw [hz h2, celAt_zero]
    exact ⟨by decide, by decide⟩
theorem Tr.highA {zs : List Cel} {t : Tre} {i : Int} (h : Tr zs t i) (hs : t.size ≤ 1000000) : 0 ≤ (celAt zs i).h ∧ (celAt zs i).h ≤ 2000000 := by
  rw [h.root.2]
  have := t.high_le_size
  omega
/-- The tree at which a change at a spot is done. -/
def subT : Int → Tre → Tre
  | _, .nil => .nil
  | s, .node l k v r => if s < 2 * (l.size : Int) + 1 then subT s l else if 2 * (l.size : Int) + 1 < s then subT (s - (2 * (l.size : Int) + 1) - 1) r else .node l k v r
theorem chg_size {f : Tre → Tre} (hf : ∀ t, (f t).size ≤ t.size + 1) : ∀ (t : Tre) (s : Int), (Tre.chg f s t).size ≤ t.size + 1
  | .nil, s => hf .nil
  | .node l k v r, s => by
    have h1 := chg_size hf l s
    have h2 := chg_size hf r (s - (2 * (l.size : Int) + 1) - 1)
    simp only [Tre.chg]
    split
    · rw [Tre.lev_size]; simp only [Tre.size]; omega
    · split
      · rw [Tre.lev_size]; simp only [Tre.size]; omega
      · exact hf _
theorem chg_k0 {f : Tre → Tre} (hf : ∀ t, K0 t → K0 (f t)) : ∀ (t : Tre) (s : Int), K0 t → K0 (Tre.chg f s t)
  | .nil, s, h => hf .nil h
  | .node l k v r, s, h => by
    have h1 := chg_k0 hf l s h.2.1
    have h2 := chg_k0 hf r (s - (2 * (l.size : Int) + 1) - 1) h.2.2
    simp only [Tre.chg]
    split
    · exact K0_lev v h1 h.2.2
    · split
      · exact K0_lev v h.2.1 h2
      · exact hf _ h
end Go.Proofs.Ytbgepeokadmemaa.F
