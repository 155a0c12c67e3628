/-
  Trees of cells: which tree stands at a number; what the builder's calls make of it. Not a statement of the seat.
-/
import Derived.Test.YtpmimngngehmlaaPmB1
import Derived.Test.YtpmimngngehmlaaPmTree
namespace Go.Proofs.Ytpmimngngehmlaa.F
open Go.ChangeShapes Go.WideShapes Go.ChangeAt Go.RowKit Base
/-- The tree at a number. -/
def Tr (zs : List Cel) : Tre → Int → Prop
  | .nil, i => i = 0
  | .node l k v r, i => (1 ≤ i ∧ i ≤ (zs.length : Int)) ∧ ∃ a b, celAt zs i = ⟨a, b, k, v, ((Tre.node l k v r).size : Int), ((Tre.node l k v r).high : Int)⟩ ∧ Tr zs l a ∧ Tr zs r b
theorem celAt_append {zs : List Cel} (ys : List Cel) {i : Int} (h : i ≤ (zs.length : Int)) : celAt (zs ++ ys) i = celAt zs i := by
  unfold celAt
  split
  · rw [List.getD_eq_getElem?_getD, List.getD_eq_getElem?_getD, List.getElem?_append_left (by omega)]
  · rfl
theorem celAt_snoc (zs : List Cel) (c : Cel) : celAt (zs ++ [c]) ((zs.length : Int) + 1) = c := by
  unfold celAt
  rw [if_pos (by omega), show ((zs.length : Int) + 1).toNat - 1 = zs.length by omega, List.getD_eq_getElem?_getD, List.getElem?_append_right (Nat.le_refl _)]
  simp
theorem celAt_zero (zs : List Cel) : celAt zs 0 = Cel.zero := rfl
theorem Tr.le {zs : List Cel} {t : Tre} {i : Int} (h : Tr zs t i) : 0 ≤ i ∧ i ≤ (zs.length : Int) := by
  cases t with
  | nil => simp only [Tr] at h; omega
  | node l k v r => have := h.1; omega
theorem Tr.append {zs : List Cel} (ys : List Cel) : ∀ {t : Tre} {i : Int}, Tr zs t i → Tr (zs ++ ys) t i
  | .nil, _, h => h
  | .node l k v r, i, h => by
    obtain ⟨h1, a, b, h2, h3, h4⟩ := h
    exact ⟨⟨h1.1, by rw [List.length_append]; omega⟩, a, b, by rw [celAt_append ys h1.2, h2], h3.append ys, h4.append ys⟩
theorem Tr.root {zs : List Cel} {t : Tre} {i : Int} (h : Tr zs t i) : (celAt zs i).s = (t.size : Int) ∧ (celAt zs i).h = (t.high : Int) := by
  cases t with
  | nil => simp only [Tr] at h; subst h; exact ⟨rfl, rfl⟩
  | node l k v r => obtain ⟨_, a, b, h2, _⟩ := h; rw [h2]; exact ⟨rfl, rfl⟩
/-- A tree that is not too great. -/
def small (t : Tre) : Prop := t.size ≤ 1000000
theorem sized_tr {zs : List Cel} {c : Cel} {l r : Tre} (hl : Tr zs l c.l) (hr : Tr zs r c.r) (h1 : l.size ≤ 2000000) (h2 : r.size ≤ 2000000) : sized zs c = ⟨c.l, c.r, c.k, c.v, ((Tre.node l c.k c.v r).size : Int), ((Tre.node l c.k c.v r).high : Int)⟩ := by
  have e1 := hl.root
  have e2 := hr.root
  have h3 := l.high_le_size
  have h4 := r.high_le_size
  unfold sized
  rw [e1.1, e1.2, e2.1, e2.2, IntWalk.wrap64_in ((l.size : Int) + 1) (by omega), IntWalk.wrap64_in ((l.size : Int) + 1 + (r.size : Int)) (by omega), IntWalk.wrap64_in (1 + _) (by split <;> omega)]
  simp only [Tre.size, Tre.high, Cel.mk.injEq, true_and]
  refine ⟨by omega, ?_⟩
  split <;> omega
theorem put_tr {zs : List Cel} {c : Cel} {l r : Tre} (hl : Tr zs l c.l) (hr : Tr zs r c.r) (h1 : l.size ≤ 2000000) (h2 : r.size ≤ 2000000) : Tr (zs ++ [sized zs c]) (.node l c.k c.v r) ((zs.length : Int) + 1) := by
  refine ⟨by simp; omega, c.l, c.r, ?_, hl.append _, hr.append _⟩
  rw [celAt_snoc, sized_tr hl hr h1 h2]
/-- What a builder's call makes: the tree, with no more cells than n; or there was no room for them. -/
def Out (room : Nat) (zs : List Cel) (n : Nat) (T : Tre) (R : List Cel × Int × Int) : Prop :=
  ∃ new, R.1 = zs ++ new ∧ ((R.2.1 = 0 ∧ Tr R.1 T R.2.2 ∧ new.length ≤ n) ∨ (R.2.1 = 2 ∧ R.1.length = room ∧ room < zs.length + n ∧ 0 ≤ R.2.2 ∧ R.2.2 ≤ (R.1.length : Int)))
theorem putM_yes {room : Nat} {zs : List Cel} (why : Int) (c : Cel) (h : zs.length < room) : putM room zs why c = (zs ++ [sized zs c], why, (zs.length : Int) + 1) := by unfold putM; rw [if_pos h]
theorem putM_no {room : Nat} {zs : List Cel} (why : Int) (c : Cel) (h : zs.length = room) : putM room zs why c = (zs, 2, 0) := by unfold putM; rw [if_neg (by omega)]
theorem turnRM_no {room : Nat} {zs : List Cel} (why : Int) (c : Cel) (h : zs.length = room) : turnRM room zs why c = (zs, 2, 0) := by
  unfold turnRM
  split <;> simp only [putM_no _ _ h]
theorem turnLM_no {room : Nat} {zs : List Cel} (why : Int) (c : Cel) (h : zs.length = room) : turnLM room zs why c = (zs, 2, 0) := by
  unfold turnLM
  split <;> simp only [putM_no _ _ h]
theorem levelM_no {room : Nat} {zs : List Cel} (why : Int) (c : Cel) (h : zs.length = room) : levelM room zs why c = (zs, 2, 0) := by
  unfold levelM
  split
  · exact turnRM_no _ _ h
  · split
    · exact turnLM_no _ _ h
    · exact putM_no _ _ h
theorem Out.full {room : Nat} {zs new : List Cel} {n : Nat} {T : Tre} (h : (zs ++ new).length = room) (hn : new.length < n) : Out room zs n T (zs ++ new, 2, 0) :=
  ⟨new, rfl, .inr ⟨rfl, h, by rw [List.length_append] at h; show room < zs.length + n; omega, Int.le_refl _, Int.natCast_nonneg _⟩⟩
theorem Out.ok {room : Nat} {zs new : List Cel} {n : Nat} {T : Tre} {i : Int} (h : Tr (zs ++ new) T i) (hn : new.length ≤ n) : Out room zs n T (zs ++ new, 0, i) := ⟨new, rfl, .inl ⟨rfl, h, hn⟩⟩
theorem Out.full0 {room : Nat} {zs : List Cel} {n : Nat} {T : Tre} (h : zs.length = room) (hn : 0 < n) : Out room zs n T (zs, 2, 0) := by
  have := Out.full (new := []) (T := T) (by simpa using h) hn
  simpa using this
theorem put_out {room : Nat} {zs : List Cel} {c : Cel} {l r : Tre} {n : Nat} (hz : zs.length ≤ room) (hl : Tr zs l c.l) (hr : Tr zs r c.r) (h1 : l.size ≤ 2000000) (h2 : r.size ≤ 2000000) (hn : 1 ≤ n) : Out room zs n (.node l c.k c.v r) (putM room zs 0 c) := by
  by_cases h : zs.length < room
  · rw [putM_yes _ _ h]; exact .ok (put_tr hl hr h1 h2) hn
  · rw [putM_no _ _ (by omega)]; exact .full0 (by omega) (by omega)
theorem turnR_out {room : Nat} {zs : List Cel} {c : Cel} {l r : Tre} (hz : zs.length ≤ room) (hl : Tr zs l c.l) (hr : Tr zs r c.r) (h1 : l.size ≤ 1000000) (h2 : r.size ≤ 1000000) (hh : r.high + 1 < l.high) : Out room zs 3 (Tre.turnR l c.k c.v r) (turnRM room zs 0 c) := by
  cases l with
  | nil => simp [Tre.high] at hh
  | node ll lk lv lr =>
    obtain ⟨hi, a, b, hc, ha, hb⟩ := hl
    unfold turnRM Tre.turnR
    rw [hc]
    simp only [Tre.size] at h1
    rw [hb.root.2, ha.root.2]
    by_cases hle : lr.high ≤ ll.high
    · rw [if_pos (by omega)]
      simp only [if_pos hle]
      by_cases q1 : zs.length < room
      · rw [putM_yes _ _ q1]
        simp only
        have t1 := put_tr (c := ⟨b, c.r, c.k, c.v, c.s, c.h⟩) hb hr (by omega) (by omega)
        generalize sized zs ⟨b, c.r, c.k, c.v, c.s, c.h⟩ = x1 at t1 ⊢
        have hs1 : (Tre.node lr c.k c.v r).size ≤ 2000000 := by simp only [Tre.size]; omega
        by_cases q2 : (zs ++ [x1]).length < room
        · rw [putM_yes _ _ q2]
          have t2 := put_tr (c := ⟨a, (zs.length : Int) + 1, lk, lv, ((Tre.node ll lk lv lr).size : Int), ((Tre.node ll lk lv lr).high : Int)⟩) (ha.append [x1]) t1 (by omega) hs1
          generalize sized (zs ++ [x1]) _ = x2 at t2 ⊢
          rw [List.append_assoc] at t2 ⊢
          exact .ok t2 (by simp)
        · rw [putM_no _ _ (show (zs ++ [x1]).length = room by simp at q2 ⊢; omega)]
          exact .full (by simp at q2 ⊢; omega) (by simp)
      · simp only [putM_no _ _ (show zs.length = room by omega)]
        exact .full0 (by omega) (by omega)
    · rw [if_neg (by omega)]
      simp only [if_neg hle]
      cases lr with
      | nil => simp [Tre.high] at hle
      | node m1 mk mv m2 =>
        obtain ⟨hi2, a2, b2, hc2, ha2, hb2⟩ := hb
        simp only [hc2]
        simp only [Tre.size] at h1
        by_cases q1 : zs.length < room
        · simp only [putM_yes _ _ q1]
          have t1 := put_tr (c := ⟨a, a2, lk, lv, ((Tre.node ll lk lv (Tre.node m1 mk mv m2)).size : Int), ((Tre.node ll lk lv (Tre.node m1 mk mv m2)).high : Int)⟩) ha ha2 (by omega) (by omega)
          generalize sized zs _ = x1 at t1 ⊢
          by_cases q2 : (zs ++ [x1]).length < room
          · simp only [putM_yes _ _ q2]
            have t2 := put_tr (c := ⟨b2, c.r, c.k, c.v, c.s, c.h⟩) (hb2.append [x1]) (hr.append [x1]) (by omega) (by omega)
            generalize sized (zs ++ [x1]) _ = x2 at t2 ⊢
            by_cases q3 : (zs ++ [x1] ++ [x2]).length < room
            · simp only [putM_yes _ _ q3]
              have t3 := put_tr (c := ⟨(zs.length : Int) + 1, ((zs ++ [x1]).length : Int) + 1, mk, mv, ((Tre.node m1 mk mv m2).size : Int), ((Tre.node m1 mk mv m2).high : Int)⟩) (t1.append [x2]) t2 (by simp only [Tre.size]; omega) (by simp only [Tre.size]; omega)
              generalize sized (zs ++ [x1] ++ [x2]) _ = x3 at t3 ⊢
              rw [List.append_assoc, List.append_assoc] at t3 ⊢
              exact .ok t3 (by simp)
            · simp only [putM_no _ _ (show (zs ++ [x1] ++ [x2]).length = room by simp at q2 q3 ⊢; omega)]
              rw [List.append_assoc]
              exact .full (by simp at q2 q3 ⊢; omega) (by simp)
          · simp only [putM_no _ _ (show (zs ++ [x1]).length = room by simp at q2 ⊢; omega)]
            exact .full (by simp at q2 ⊢; omega) (by simp)
        · simp only [putM_no _ _ (show zs.length = room by omega)]
          exact .full0 (by omega) (by omega)
theorem turnL_out {room : Nat} {zs : List Cel} {c : Cel} {l r : Tre} (hz : zs.length ≤ room) (hl : Tr zs l c.l) (hr : Tr zs r c.r) (h1 : l.size ≤ 1000000) (h2 : r.size ≤ 1000000) (hh : l.high + 1 < r.high) : Out room zs 3 (Tre.turnL l c.k c.v r) (turnLM room zs 0 c) := by
  cases r with
  | nil => simp [Tre.high] at hh
  | node rl rk rv rr =>
    obtain ⟨hi, a, b, hc, ha, hb⟩ := hr
    unfold turnLM Tre.turnL
    rw [hc]
    simp only [Tre.size] at h2
    rw [hb.root.2, ha.root.2]
    by_cases hle : rl.high ≤ rr.high
    · rw [if_pos (by omega)]
      simp only [if_pos hle]
      by_cases q1 : zs.length < room
      · rw [putM_yes _ _ q1]
        simp only
        have t1 := put_tr (c := ⟨c.l, a, c.k, c.v, c.s, c.h⟩) hl ha (by omega) (by omega)
        generalize sized zs ⟨c.l, a, c.k, c.v, c.s, c.h⟩ = x1 at t1 ⊢
        have hs1 : (Tre.node l c.k c.v rl).size ≤ 2000000 := by simp only [Tre.size]; omega
        by_cases q2 : (zs ++ [x1]).length < room
        · rw [putM_yes _ _ q2]
          have t2 := put_tr (c := ⟨(zs.length : Int) + 1, b, rk, rv, ((Tre.node rl rk rv rr).size : Int), ((Tre.node rl rk rv rr).high : Int)⟩) t1 (hb.append [x1]) hs1 (by omega)
          generalize sized (zs ++ [x1]) _ = x2 at t2 ⊢
          rw [List.append_assoc] at t2 ⊢
          exact .ok t2 (by simp)
        · rw [putM_no _ _ (show (zs ++ [x1]).length = room by simp at q2 ⊢; omega)]
          exact .full (by simp at q2 ⊢; omega) (by simp)
      · simp only [putM_no _ _ (show zs.length = room by omega)]
        exact .full0 (by omega) (by omega)
    · rw [if_neg (by omega)]
      simp only [if_neg hle]
      cases rl with
      | nil => simp [Tre.high] at hle
      | node m1 mk mv m2 =>
        obtain ⟨hi2, a2, b2, hc2, ha2, hb2⟩ := ha
        simp only [hc2]
        simp only [Tre.size] at h2
        by_cases q1 : zs.length < room
        · simp only [putM_yes _ _ q1]
          have t1 := put_tr (c := ⟨b2, b, rk, rv, ((Tre.node (Tre.node m1 mk mv m2) rk rv rr).size : Int), ((Tre.node (Tre.node m1 mk mv m2) rk rv rr).high : Int)⟩) hb2 hb (by omega) (by omega)
          generalize sized zs _ = x1 at t1 ⊢
          by_cases q2 : (zs ++ [x1]).length < room
          · simp only [putM_yes _ _ q2]
            have t2 := put_tr (c := ⟨c.l, a2, c.k, c.v, c.s, c.h⟩) (hl.append [x1]) (ha2.append [x1]) (by omega) (by omega)
            generalize sized (zs ++ [x1]) _ = x2 at t2 ⊢
            by_cases q3 : (zs ++ [x1] ++ [x2]).length < room
            · simp only [putM_yes _ _ q3]
              have t3 := put_tr (c := ⟨((zs ++ [x1]).length : Int) + 1, (zs.length : Int) + 1, mk, mv, ((Tre.node m1 mk mv m2).size : Int), ((Tre.node m1 mk mv m2).high : Int)⟩) t2 (t1.append [x2]) (by simp only [Tre.size]; omega) (by simp only [Tre.size]; omega)
              generalize sized (zs ++ [x1] ++ [x2]) _ = x3 at t3 ⊢
              rw [List.append_assoc, List.append_assoc] at t3 ⊢
              exact .ok t3 (by simp)
            · simp only [putM_no _ _ (show (zs ++ [x1] ++ [x2]).length = room by simp at q2 q3 ⊢; omega)]
              rw [List.append_assoc]
              exact .full (by simp at q2 q3 ⊢; omega) (by simp)
          · simp only [putM_no _ _ (show (zs ++ [x1]).length = room by simp at q2 ⊢; omega)]
            exact .full (by simp at q2 ⊢; omega) (by simp)
        · simp only [putM_no _ _ (show zs.length = room by omega)]
          exact .full0 (by omega) (by omega)
theorem level_out {room : Nat} {zs : List Cel} {c : Cel} {l r : Tre} (hz : zs.length ≤ room) (hl : Tr zs l c.l) (hr : Tr zs r c.r) (h1 : l.size ≤ 1000000) (h2 : r.size ≤ 1000000) : Out room zs 3 (Tre.lev l c.k c.v r) (levelM room zs 0 c) := by
  have h3 := l.high_le_size
  have h4 := r.high_le_size
  unfold levelM Tre.lev
  rw [hl.root.2, hr.root.2, IntWalk.wrap64_in _ (by omega)]
  by_cases q1 : r.high + 1 < l.high
  · rw [if_pos q1, if_pos (show (1 : Int) < (l.high : Int) - (r.high : Int) by omega)]
    exact turnR_out hz hl hr h1 h2 q1
  · rw [if_neg q1, if_neg (show ¬ (1 : Int) < (l.high : Int) - (r.high : Int) by omega)]
    by_cases q2 : l.high + 1 < r.high
    · rw [if_pos q2, if_pos (show (l.high : Int) - (r.high : Int) < -1 by omega)]
      exact turnL_out hz hl hr h1 h2 q2
    · rw [if_neg q2, if_neg (show ¬ (l.high : Int) - (r.high : Int) < -1 by omega)]
      exact put_out hz hl hr (by omega) (by omega) (by omega)
/-- A level behind a call that made the left tree. -/
theorem out_left {room : Nat} {zs : List Cel} {n : Nat} {T r : Tre} {R : List Cel × Int × Int} {b k v s h : Int} (hR : Out room zs n T R) (hr : Tr zs r b) (h1 : T.size ≤ 1000000) (h2 : r.size ≤ 1000000) (hb : R.1.length ≤ room) : Out room zs (n + 3) (Tre.lev T k v r) (levelM room R.1 R.2.1 ⟨R.2.2, b, k, v, s, h⟩) := by
  obtain ⟨zs1, why1, i1⟩ := R
  obtain ⟨new, he, h | h⟩ := hR
  · simp only at he h hb ⊢
    obtain ⟨rfl, ht, hn⟩ := h
    subst he
    obtain ⟨new2, he2, h3⟩ := level_out (c := ⟨i1, b, k, v, s, h⟩) hb ht (hr.append new) h1 h2
    refine ⟨new ++ new2, by rw [he2, List.append_assoc], ?_⟩
    rcases h3 with ⟨x1, x2, x3⟩ | ⟨x1, x2, x3, x4⟩
    · exact .inl ⟨x1, x2, by rw [List.length_append]; omega⟩
    · exact .inr ⟨x1, x2, by rw [List.length_append] at x3; omega, x4⟩
  · simp only at he h hb ⊢
    obtain ⟨rfl, hf, hn, _⟩ := h
    subst he
    rw [levelM_no _ _ hf]
    exact ⟨new, rfl, .inr ⟨rfl, hf, by omega, Int.le_refl _, Int.natCast_nonneg _⟩⟩
theorem out_right {room : Nat} {zs : List Cel} {n : Nat} {T l : Tre} {R : List Cel × Int × Int} {a k v s h : Int} (hR : Out room zs n T R) (hl : Tr zs l a) (h1 : T.size ≤ 1000000) (h2 : l.size ≤ 1000000) (hb : R.1.length ≤ room) : Out room zs (n + 3) (Tre.lev l k v T) (levelM room R.1 R.2.1 ⟨a, R.2.2, k, v, s, h⟩) := by
  obtain ⟨zs1, why1, i1⟩ := R
  obtain ⟨new, he, h | h⟩ := hR
  · simp only at he h hb ⊢
    obtain ⟨rfl, ht, hn⟩ := h
    subst he
    obtain ⟨new2, he2, h3⟩ := level_out (c := ⟨a, i1, k, v, s, h⟩) hb (hl.append new) ht h2 h1
    refine ⟨new ++ new2, by rw [he2, List.append_assoc], ?_⟩
    rcases h3 with ⟨x1, x2, x3⟩ | ⟨x1, x2, x3, x4⟩
    · exact .inl ⟨x1, x2, by rw [List.length_append]; omega⟩
    · exact .inr ⟨x1, x2, by rw [List.length_append] at x3; omega, x4⟩
  · simp only at he h hb ⊢
    obtain ⟨rfl, hf, hn, _⟩ := h
    subst he
    rw [levelM_no _ _ hf]
    exact ⟨new, rfl, .inr ⟨rfl, hf, by omega, Int.le_refl _, Int.natCast_nonneg _⟩⟩
namespace Tre
theorem lev_size (l : Tre) (k v : Int) (r : Tre) : (lev l k v r).size = l.size + 1 + r.size := by
  rw [← list_len, lev_list, List.length_append, List.length_cons, list_len, list_len]; omega
theorem ins_size (key val : Int) (t : Tre) : (ins key val t).size ≤ t.size + 1 := by
  induction t with
  | nil => simp [ins, size]
  | node l k v r h1 h2 =>
    simp only [ins]
    split
    · rw [lev_size]; simp only [size]; omega
    · split
      · rw [lev_size]; simp only [size]; omega
      · rw [lev_size]; simp only [size]; omega
theorem pop_size {t : Tre} (h : t ≠ nil) : t.size = (pop t).2.size + 1 := by
  rw [← list_len, pop_list h, List.length_cons, list_len]
theorem del_size (key : Int) (t : Tre) : (del key t).size ≤ t.size := by
  induction t with
  | nil => simp [del]
  | node l k v r h1 h2 =>
    by_cases c1 : key < k
    · simp only [del, if_pos c1]; rw [lev_size]; simp only [size]; omega
    · by_cases c2 : k < key
      · simp only [del, if_neg c1, if_pos c2]; rw [lev_size]; simp only [size]; omega
      · obtain rfl : key = k := by omega
        by_cases e1 : l = nil
        · subst e1; simp only [del, if_neg c1, size]; omega
        · by_cases e2 : r = nil
          · subst e2
            cases l with
            | nil => exact absurd rfl e1
            | node => simp only [del, if_neg c1, size]; omega
          · rw [del_eq _ _ _ _ e1 e2, lev_size]
            have := pop_size e2
            simp only [size]; omega
end Tre
/-- What a builder's call leaves: the tree, with no more cells than n; or there was no room for them. -/
def BO (B : Nat) (pv : Value) (o : Option Nat) (root had : Int) (room : Nat) (zs : List Cel) (n : Nat) (T : Tre) (w : World) (e : Ending) (w' : World) : Prop :=
  ∃ R, Out room zs n T R ∧ R.1.length ≤ room ∧ BP B pv o root had room R.1 R.2.1 (.int .i64 R.2.2) w e w'
theorem BP.len {B : Nat} {pv : Value} {o : Option Nat} {root had : Int} {room : Nat} {zs : List Cel} {why : Int} {v : Value} {w : World} {e : Ending} {w' : World} (h : BP B pv o root had room zs why v w e w') : zs.length ≤ room := by
  obtain ⟨_, o', h, _⟩ := h
  exact h.2.le.1
theorem Out.idx {room : Nat} {zs : List Cel} {n : Nat} {T : Tre} {R : List Cel × Int × Int} (h : Out room zs n T R) : 0 ≤ R.2.2 ∧ R.2.2 ≤ (R.1.length : Int) ∧ zs.length ≤ R.1.length := by
  obtain ⟨new, he, h⟩ := h
  have : zs.length ≤ R.1.length := by rw [he, List.length_append]; omega
  rcases h with ⟨_, h, _⟩ | ⟨_, _, _, h1, h2⟩
  · have := h.le; exact ⟨this.1, this.2, by assumption⟩
  · exact ⟨h1, h2, this⟩
theorem Out.mono {room : Nat} {zs : List Cel} {n m : Nat} {T : Tre} {R : List Cel × Int × Int} (h : Out room zs n T R) (hn : n ≤ m) : Out room zs m T R := by
  obtain ⟨new, he, h⟩ := h
  refine ⟨new, he, ?_⟩
  rcases h with ⟨h1, h2, h3⟩ | ⟨h1, h2, h3, h4⟩
  · exact .inl ⟨h1, h2, by omega⟩
  · exact .inr ⟨h1, h2, by omega, h4⟩
end Go.Proofs.Ytpmimngngehmlaa.F
