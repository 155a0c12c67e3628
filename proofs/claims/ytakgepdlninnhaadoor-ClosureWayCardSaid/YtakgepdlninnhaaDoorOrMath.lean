/-
  Orders of ids, as plain lists: who stands where, the same numbers, moves. Plain lemmas, no statement of the seat.
-/
import Derived.Test.YtakgepdlninnhaaDoorRows
namespace Go.Proofs.YtakgepdlninnhaaDoor.Om
/-- Where x stands first; -1: nowhere. -/
def idx (l : List Int) (x : Int) : Int := if x ∈ l then ((l.idxOf x : Nat) : Int) else -1
theorem idx_hit {l : List Int} {x : Int} (k : Nat) (hk : k < l.length) (h : l.getD k 0 = x) (hn : ∀ j, j < k → l.getD j 0 ≠ x) : idx l x = k := by
  have e : l[k] = x := by rw [← h, List.getD_eq_getElem?_getD, List.getElem?_eq_getElem hk]; rfl
  have hm : x ∈ l := by rw [← e]; exact List.getElem_mem hk
  unfold idx
  rw [if_pos hm]
  congr 1
  have h1 := List.idxOf_lt_length_of_mem hm
  have h2 : l[l.idxOf x] = x := List.getElem_idxOf h1
  rcases Nat.lt_trichotomy (l.idxOf x) k with h3 | h3 | h3
  · exact absurd (by rw [List.getD_eq_getElem?_getD, List.getElem?_eq_getElem h1]; exact h2) (hn _ h3)
  · exact h3
  · have := List.not_of_lt_findIdx (p := (· == x)) h3
    simp [e] at this
theorem idx_miss {l : List Int} {x : Int} (hn : ∀ j, j < l.length → l.getD j 0 ≠ x) : idx l x = -1 := by
  unfold idx
  rw [if_neg]
  intro hm
  obtain ⟨k, hk, e⟩ := List.getElem_of_mem hm
  exact hn k hk (by rw [List.getD_eq_getElem?_getD, List.getElem?_eq_getElem hk]; exact e)
theorem idx_mem {l : List Int} {x : Int} (h : x ∈ l) : idx l x = ((l.idxOf x : Nat) : Int) := by unfold idx; rw [if_pos h]
theorem idx_no {l : List Int} {x : Int} (h : x ∉ l) : idx l x = -1 := by unfold idx; rw [if_neg h]
theorem idx_neg {l : List Int} {x : Int} : idx l x < 0 ↔ x ∉ l := by
  unfold idx
  split
  · rename_i h
    exact ⟨fun h' => by omega, fun h' => absurd h h'⟩
  · rename_i h
    exact ⟨fun _ => h, fun _ => by omega⟩
theorem idx_bd (l : List Int) (x : Int) : -1 ≤ idx l x ∧ idx l x < l.length := by
  unfold idx
  split
  · rename_i h
    have := List.idxOf_lt_length_of_mem h
    omega
  · omega
/-- What stands at a place, if there is one. -/
def atV (l : List Int) (p : Int) : Int := if 0 ≤ p ∧ p < l.length then l.getD p.toNat 0 else 0
def atB (l : List Int) (p : Int) : Bool := decide (0 ≤ p ∧ p < l.length)
def nextAt (l : List Int) (x : Int) : Int := if x = 0 then 0 else if x ∈ l then idx l x + 1 else -1
def nextV (l : List Int) (x : Int) : Int := atV l (nextAt l x)
def nextB (l : List Int) (x : Int) : Bool := atB l (nextAt l x)
def prevV (l : List Int) (x : Int) : Int := atV l (idx l x - 1)
def prevB (l : List Int) (x : Int) : Bool := atB l (idx l x - 1)
theorem atV_in {l : List Int} (k : Nat) (h : k < l.length) : atV l (k : Int) = l.getD k 0 := by
  unfold atV
  rw [if_pos (by omega)]
  rfl
theorem atB_in {l : List Int} (k : Nat) (h : k < l.length) : atB l (k : Int) = true := by
  unfold atB
  rw [decide_eq_true]
  omega
theorem atV_out {l : List Int} {p : Int} (h : p < 0 ∨ (l.length : Int) ≤ p) : atV l p = 0 := by
  unfold atV
  rw [if_neg (by omega)]
theorem atB_out {l : List Int} {p : Int} (h : p < 0 ∨ (l.length : Int) ≤ p) : atB l p = false := by
  unfold atB
  rw [decide_eq_false]
  omega
/-- Ids alone, none twice. -/
def Rt (l : List Int) : Prop := (∀ x ∈ l, 1 ≤ x ∧ x ≤ 1048575) ∧ l.Nodup
instance (l : List Int) : Decidable (Rt l) := inferInstanceAs (Decidable (_ ∧ _))
def rightB (l : List Int) : Bool := decide (Rt l)
theorem rt_snoc {l : List Int} {x : Int} : Rt (l ++ [x]) ↔ Rt l ∧ (1 ≤ x ∧ x ≤ 1048575) ∧ x ∉ l := by
  unfold Rt
  simp only [List.mem_append, List.mem_singleton, List.nodup_append, List.nodup_cons, List.not_mem_nil, not_false_eq_true, List.nodup_nil, and_true, true_and]
  constructor
  · rintro ⟨h1, h2, h3⟩
    exact ⟨⟨fun y hy => h1 y (.inl hy), h2⟩, h1 x (.inr rfl), fun hx => h3 x hx x rfl rfl⟩
  · rintro ⟨⟨h1, h2⟩, h3, h4⟩
    exact ⟨fun y hy => by rcases hy with hy | rfl; exact h1 y hy; exact h3, h2, fun a ha b hb e => h4 (by rw [← hb, ← e]; exact ha)⟩
theorem rt_take {l : List Int} (h : Rt l) (k : Nat) : Rt (l.take k) := ⟨fun x hx => h.1 x (List.mem_of_mem_take hx), h.2.sublist (List.take_sublist _ _)⟩
theorem take_snoc (l : List Int) (k : Nat) (h : k < l.length) : l.take (k + 1) = l.take k ++ [l.getD k 0] := by
  rw [List.take_succ_eq_append_getElem h, List.getD_eq_getElem?_getD, List.getElem?_eq_getElem h]; rfl
theorem rt_bad {l : List Int} {k : Nat} (h : k < l.length) (hb : l.getD k 0 < 1 ∨ 1048575 < l.getD k 0 ∨ l.getD k 0 ∈ l.take k) : rightB l = false := by
  unfold rightB
  rw [decide_eq_false]
  intro hr
  have := rt_take hr (k + 1)
  rw [take_snoc l k h, rt_snoc] at this
  obtain ⟨_, h1, h2⟩ := this
  rcases hb with hb | hb | hb
  · omega
  · omega
  · exact h2 hb
theorem rt_step {l : List Int} {k : Nat} (h : k < l.length) (h0 : Rt (l.take k)) (h1 : 1 ≤ l.getD k 0) (h2 : l.getD k 0 ≤ 1048575) (h3 : l.getD k 0 ∉ l.take k) : Rt (l.take (k + 1)) := by
  rw [take_snoc l k h, rt_snoc]
  exact ⟨h0, ⟨h1, h2⟩, h3⟩
theorem rt_end {l : List Int} {k : Nat} (h : l.length ≤ k) (h0 : Rt (l.take k)) : rightB l = true := by
  rw [List.take_of_length_le h] at h0
  exact decide_eq_true h0
/-! the same numbers -/
theorem perm_of_le : ∀ (b a : List Int), a.length = b.length → (∀ y, b.count y ≤ a.count y) → a.Perm b
  | [], a, hl, _ => by rw [List.length_eq_zero_iff.1 hl]
  | x :: b, a, hl, h => by
    have hx : x ∈ a := by
      have := h x
      rw [List.count_cons_self] at this
      exact List.count_pos_iff.1 (by omega)
    have h1 : (a.erase x).Perm b := perm_of_le b (a.erase x) (by rw [List.length_erase_of_mem hx, hl]; rfl) (fun y => by
      have hy := h y
      rw [List.count_erase]
      rw [List.count_cons] at hy
      by_cases e : x = y
      · subst e
        simp at hy ⊢
        omega
      · have e1 : (x == y) = false := by simpa using e
        simp only [e1] at hy ⊢
        simpa using hy)
    exact (List.perm_cons_erase hx).trans (h1.cons x)
def permB (a b : List Int) : Bool := decide (a.Perm b)
theorem perm_len {a b : List Int} (h : a.length ≠ b.length) : permB a b = false := by
  unfold permB
  rw [decide_eq_false]
  exact fun hp => h hp.length_eq
theorem perm_yes {a b : List Int} (hl : a.length = b.length) (h : ∀ y, b.count y ≤ a.count y) : permB a b = true := decide_eq_true (perm_of_le b a hl h)
theorem perm_yes' {a b : List Int} (hl : a.length = b.length) (h : ∀ y, y ∈ a → a.count y = b.count y) : permB a b = true := by
  refine decide_eq_true (perm_of_le a b hl.symm (fun y => ?_)).symm
  by_cases hy : y ∈ a
  · rw [h y hy]; exact Nat.le_refl _
  · rw [List.count_eq_zero.2 hy]; omega
theorem perm_no {a b : List Int} (y : Int) (h : a.count y ≠ b.count y) : permB a b = false := by
  unfold permB
  rw [decide_eq_false]
  exact fun hp => h (hp.count_eq y)
theorem perm_no_at {a b : List Int} {k : Nat} (hk : k < b.length) (h : a.count (b.getD k 0) = (b.take k).count (b.getD k 0)) : permB a b = false := by
  refine perm_no (b.getD k 0) ?_
  have h1 : (b.take (k + 1)).count (b.getD k 0) ≤ b.count (b.getD k 0) := (List.take_sublist _ _).count_le _
  rw [take_snoc b k hk, List.count_append, List.count_singleton_self] at h1
  omega
theorem count_take (b : List Int) (k : Nat) (h : k < b.length) (y : Int) : (b.take (k + 1)).count y = (b.take k).count y + (if y = b.getD k 0 then 1 else 0) := by
  rw [take_snoc b k h, List.count_append, List.count_singleton]
  by_cases e : y = b.getD k 0
  · subst e; simp
  · have : (b.getD k 0 == y) = false := by simpa using fun h => e h.symm
    rw [this, if_neg e]
    simp
/-! with, without, moved -/
def withL (l : List Int) (x : Int) : List Int := if x ∈ l then l else l ++ [x]
def without (l : List Int) (x : Int) : List Int := l.filter (fun y => y != x)
theorem without_snoc (l : List Int) (x y : Int) : without (l ++ [y]) x = without l x ++ (if y = x then [] else [y]) := by
  unfold without
  rw [List.filter_append]
  by_cases e : y = x
  · simp [e]
  · simp [e]
/-- l without what stands at i, and x put in at p. -/
def mv (l : List Int) (i p : Nat) (x : Int) : List Int := (l.take i ++ l.drop (i + 1)).take p ++ x :: (l.take i ++ l.drop (i + 1)).drop p
theorem mv_length (l : List Int) (i p : Nat) (x : Int) (hi : i < l.length) (hp : p < l.length) : (mv l i p x).length = l.length := by
  unfold mv
  simp
  omega
def moveL (l : List Int) (x place : Int) : List Int := if x ∈ l ∧ 0 ≤ place ∧ place < l.length then mv l (l.idxOf x) place.toNat x else []
def moveE (l : List Int) (x place : Int) : Int := if x ∉ l then 3 else if place < 0 ∨ (l.length : Int) ≤ place then 1 else 0
theorem move_no {l : List Int} {x place : Int} (h : x ∉ l) : moveL l x place = [] ∧ moveE l x place = 3 := by
  unfold moveL moveE
  rw [if_neg (fun h' => h h'.1), if_pos h]
  exact ⟨rfl, rfl⟩
theorem move_range {l : List Int} {x place : Int} (h : x ∈ l) (hp : place < 0 ∨ (l.length : Int) ≤ place) : moveL l x place = [] ∧ moveE l x place = 1 := by
  unfold moveL moveE
  rw [if_neg (fun h' => by omega), if_neg (fun h' => h' h), if_pos hp]
  exact ⟨rfl, rfl⟩
theorem move_ok {l : List Int} {x : Int} (h : x ∈ l) (p : Nat) (hp : p < l.length) : moveL l x p = mv l (l.idxOf x) p x ∧ moveE l x p = 0 := by
  unfold moveL moveE
  rw [if_pos ⟨h, by omega, by omega⟩, if_neg (fun h' => h' h), if_neg (by omega)]
  exact ⟨rfl, rfl⟩
/-! the moves that make one order of another -/
/-- What is left of an order, what is to come of the other one, how many places are done: the moves. -/
def stepsF : List Int → List Int → Nat → List (Int × Int)
  | _, [], _ => []
  | rest, x :: to, i => (if rest.head? = some x then [] else [(x, (i : Int))]) ++ stepsF (without rest x) to (i + 1)
def stepsL (l m : List Int) : List (Int × Int) := if Rt l ∧ l.Perm m then stepsF l m 0 else []
def stepsE (l m : List Int) : Int := if Rt l ∧ l.Perm m then 0 else 8
theorem rt_perm {l m : List Int} (h : l.Perm m) (hl : Rt l) : Rt m := ⟨fun x hx => hl.1 x (h.mem_iff.2 hx), h.nodup_iff.1 hl.2⟩
theorem without_no {l : List Int} {x : Int} (h : x ∉ l) : without l x = l := by
  unfold without
  rw [List.filter_eq_self]
  intro y hy
  simp only [bne_iff_ne, ne_eq]
  exact fun e => h (by rw [← e]; exact hy)
theorem without_cons_self {l : List Int} {x : Int} (h : x ∉ l) : without (x :: l) x = l := by
  have : without (x :: l) x = without l x := by unfold without; simp
  rw [this, without_no h]
theorem without_mem {l : List Int} {x y : Int} : y ∈ without l x ↔ y ∈ l ∧ y ≠ x := by
  unfold without
  simp
theorem without_perm {l m : List Int} {x : Int} (h : l.Perm (x :: m)) (hn : l.Nodup) : (without l x).Perm m := by
  have h1 : (without l x).Perm (without (x :: m) x) := List.Perm.filter _ h
  have h2 : (x :: m).Nodup := h.nodup_iff.1 hn
  rwa [without_cons_self (List.nodup_cons.1 h2).1] at h1
theorem without_nodup {l : List Int} (x : Int) (h : l.Nodup) : (without l x).Nodup := h.sublist List.filter_sublist
/-- What is done, the one to come put in front of what is left. -/
theorem mv_done {d r : List Int} {x : Int} (hx : x ∈ r) (hd : x ∉ d) (hn : r.Nodup) : mv (d ++ r) ((d ++ r).idxOf x) d.length x = d ++ x :: without r x := by
  have e1 : (d ++ r).idxOf x = r.idxOf x + d.length := by rw [List.idxOf_append, if_neg hd]
  rw [e1]
  have hi := List.idxOf_lt_length_of_mem hx
  unfold mv
  have e2 : (d ++ r).take (r.idxOf x + d.length) = d ++ r.take (r.idxOf x) := by
    rw [List.take_append, List.take_of_length_le (by omega)]
    congr 2
    omega
  have e3 : (d ++ r).drop (r.idxOf x + d.length + 1) = r.drop (r.idxOf x + 1) := by
    rw [List.drop_append, List.drop_eq_nil_of_le (by omega), List.nil_append]
    congr 1
    omega
  rw [e2, e3, List.append_assoc, List.take_append_of_le_length (Nat.le_refl _), List.take_length, List.drop_append_of_le_length (Nat.le_refl _), List.drop_length, List.nil_append]
  congr 2
  have e4 : r = r.take (r.idxOf x) ++ x :: r.drop (r.idxOf x + 1) := by
    have := List.take_append_drop (r.idxOf x) r
    rw [List.drop_eq_getElem_cons hi, List.getElem_idxOf hi] at this
    exact this.symm
  have e5 : x ∉ r.take (r.idxOf x) ∧ x ∉ r.drop (r.idxOf x + 1) := by
    rw [e4] at hn
    rw [List.nodup_append, List.nodup_cons] at hn
    exact ⟨fun h => hn.2.2 x h x (by simp) rfl, hn.2.1.1⟩
  have e6 : without r x = r.take (r.idxOf x) ++ r.drop (r.idxOf x + 1) := by
    have : without r x = without (r.take (r.idxOf x) ++ x :: r.drop (r.idxOf x + 1)) x := by rw [← e4]
    rw [this]
    show (r.take (r.idxOf x) ++ x :: r.drop (r.idxOf x + 1)).filter _ = _
    rw [List.filter_append]
    have a1 : (r.take (r.idxOf x)).filter (fun y => y != x) = r.take (r.idxOf x) := without_no e5.1
    have a2 : (x :: r.drop (r.idxOf x + 1)).filter (fun y => y != x) = r.drop (r.idxOf x + 1) := without_cons_self e5.2
    rw [a1, a2]
  exact e6.symm
theorem moved_done {d r : List Int} {x : Int} (hx : x ∈ r) (hd : x ∉ d) (hn : r.Nodup) : moveL (d ++ r) x (d.length : Int) = (d ++ [x]) ++ without r x ∧ moveE (d ++ r) x (d.length : Int) = 0 := by
  have hl : d.length < (d ++ r).length := by
    have := List.length_pos_of_mem hx
    rw [List.length_append]
    omega
  obtain ⟨h1, h2⟩ := move_ok (l := d ++ r) (x := x) (List.mem_append_right _ hx) d.length hl
  refine ⟨?_, h2⟩
  rw [h1, mv_done hx hd hn, List.append_assoc]
  rfl
theorem head_done {r : List Int} {x : Int} (hh : r.head? = some x) (hn : r.Nodup) : r = x :: without r x := by
  cases r with
  | nil => simp at hh
  | cons y r =>
    have e : y = x := by simpa using hh
    subst e
    rw [without_cons_self (List.nodup_cons.1 hn).1]
/-- The moves, done one behind the other, lead from x to m, and none is refused. -/
def GoesTo : List Int → List (Int × Int) → List Int → Prop
  | x, [], m => x = m
  | x, p :: s, m => moveE x p.1 p.2 = 0 ∧ GoesTo (moveL x p.1 p.2) s m
theorem steps_go : ∀ (to d rest : List Int), rest.Perm to → (d ++ rest).Nodup → GoesTo (d ++ rest) (stepsF rest to d.length) (d ++ to)
  | [], d, rest, hp, _ => by
    have : rest = [] := hp.eq_nil
    subst this
    rfl
  | x :: to, d, rest, hp, hn => by
    have hx : x ∈ rest := hp.mem_iff.2 (by simp)
    rw [List.nodup_append] at hn
    have hxd : x ∉ d := fun h => hn.2.2 x h x hx rfl
    have hp' := without_perm hp hn.2.1
    have ih := steps_go to (d ++ [x]) (without rest x) hp' (by
      rw [List.nodup_append, List.nodup_append]
      refine ⟨⟨hn.1, by simp, fun a ha b hb e => ?_⟩, without_nodup x hn.2.1, fun a ha b hb e => ?_⟩
      · rw [List.mem_singleton] at hb
        exact hxd (by rw [← hb, ← e]; exact ha)
      · rw [without_mem] at hb
        rcases List.mem_append.1 ha with ha | ha
        · exact hn.2.2 a ha b hb.1 e
        · rw [List.mem_singleton] at ha
          exact hb.2 (by rw [← e, ha]))
    rw [List.length_append, List.length_singleton, List.append_assoc, List.append_assoc] at ih
    unfold stepsF
    by_cases hh : rest.head? = some x
    · rw [if_pos hh, List.nil_append]
      have e := head_done hh hn.2.1
      have e2 : d ++ rest = d ++ ([x] ++ without rest x) := by rw [List.singleton_append, ← e]
      rw [e2]
      exact ih
    · rw [if_neg hh]
      obtain ⟨h1, h2⟩ := moved_done hx hxd hn.2.1
      refine ⟨h2, ?_⟩
      rw [h1, List.append_assoc]
      exact ih
theorem steps_keys : ∀ (to rest : List Int) (i : Nat), ((stepsF rest to i).map Prod.fst).Sublist to
  | [], _, _ => by simp [stepsF]
  | x :: to, rest, i => by
    unfold stepsF
    have ih := steps_keys to (without rest x) (i + 1)
    split
    · exact ih.cons x
    · exact ih.cons_cons x
theorem steps_same : ∀ (l : List Int) (i : Nat), l.Nodup → stepsF l l i = []
  | [], _, _ => rfl
  | x :: l, i, h => by
    rw [List.nodup_cons] at h
    unfold stepsF
    rw [without_cons_self h.1, steps_same l (i + 1) h.2]
    simp
theorem steps_nil {l m : List Int} (hl : Rt l) (hp : l.Perm m) : stepsF l m 0 = [] ↔ l = m := by
  constructor
  · intro h
    have := steps_go m [] l hp (by simpa using hl.2)
    simp only [List.nil_append, List.length_nil] at this
    rw [h] at this
    exact this
  · intro h
    subst h
    exact steps_same l 0 hl.2
theorem steps_bound : ∀ (to rest : List Int) (i : Nat), (stepsF rest to i).length ≤ to.length
  | [], _, _ => by simp [stepsF]
  | x :: to, rest, i => by
    unfold stepsF
    have ih := steps_bound to (without rest x) (i + 1)
    split <;> simp <;> omega
/-! the program's way: what is left stands in a part of the first order -/
def left (met : List Int) (l : List Int) : List Int := l.filter (fun y => !met.contains y)
theorem left_nil (l : List Int) : left [] l = l := by unfold left; simp
theorem left_snoc (met l : List Int) (x : Int) : left (met ++ [x]) l = without (left met l) x := by
  unfold left without
  rw [List.filter_filter]
  apply List.filter_congr
  intro y _
  simp [bne]
  by_cases e : y = x <;> simp [e]
theorem left_drop {met l : List Int} {j : Nat} (hj : j < l.length) (hm : l.getD j 0 ∈ met) : left met (l.drop (j + 1)) = left met (l.drop j) := by
  rw [List.drop_eq_getElem_cons hj]
  rw [List.getD_eq_getElem?_getD, List.getElem?_eq_getElem hj] at hm
  unfold left
  rw [List.filter_cons_of_neg]
  simpa using hm
theorem left_head {met l : List Int} {j : Nat} (hj : j < l.length) (hm : l.getD j 0 ∉ met) : (left met (l.drop j)).head? = some (l.getD j 0) := by
  rw [List.drop_eq_getElem_cons hj]
  rw [List.getD_eq_getElem?_getD, List.getElem?_eq_getElem hj] at hm ⊢
  unfold left
  rw [List.filter_cons_of_pos (by simpa using hm)]
  rfl
theorem left_there {met l : List Int} {j : Nat} (h : left met (l.drop j) ≠ []) : j < l.length := by
  rcases Nat.lt_or_ge j l.length with h1 | h1
  · exact h1
  · rw [List.drop_eq_nil_of_le h1] at h
    exact absurd rfl h
/-- What is left of l behind some of m, if they have the same numbers: as many as are to come. -/
theorem left_perm : ∀ (k : Nat) (l m : List Int), l.Perm m → l.Nodup → (left (m.take k) l).Perm (m.drop k)
  | 0, l, m, h, _ => by rw [List.take_zero, left_nil, List.drop_zero]; exact h
  | k + 1, l, m, h, hn => by
    rcases Nat.lt_or_ge k m.length with hk | hk
    · rw [take_snoc m k hk, left_snoc]
      have ih := left_perm k l m h hn
      rw [List.drop_eq_getElem_cons hk] at ih
      have e : m[k] = m.getD k 0 := by rw [List.getD_eq_getElem?_getD, List.getElem?_eq_getElem hk]; rfl
      rw [e] at ih
      exact without_perm ih (hn.sublist List.filter_sublist)
    · have ih := left_perm k l m h hn
      rw [List.take_of_length_le (by omega)]
      rw [List.take_of_length_le hk, List.drop_eq_nil_of_le hk] at ih
      rw [List.drop_eq_nil_of_le (by omega)]
      exact ih
theorem stepsF_at (rest to : List Int) (k : Nat) (hk : k < to.length) : stepsF rest (to.drop k) k = (if rest.head? = some (to.getD k 0) then [] else [(to.getD k 0, (k : Int))]) ++ stepsF (without rest (to.getD k 0)) (to.drop (k + 1)) (k + 1) := by
  rw [List.drop_eq_getElem_cons hk]
  have e : to[k] = to.getD k 0 := by rw [List.getD_eq_getElem?_getD, List.getElem?_eq_getElem hk]; rfl
  rw [e]
  rfl
/-- One place more is done. -/
theorem way_step {l m : List Int} {out : List (Int × Int)} {k : Nat} (hk : k < m.length) (h : out ++ stepsF (left (m.take k) l) (m.drop k) k = stepsF l m 0) :
    (out ++ (if (left (m.take k) l).head? = some (m.getD k 0) then [] else [(m.getD k 0, (k : Int))])) ++ stepsF (left (m.take (k + 1)) l) (m.drop (k + 1)) (k + 1) = stepsF l m 0 := by
  rw [take_snoc m k hk, left_snoc, List.append_assoc, ← stepsF_at _ _ _ hk]
  exact h
/-! what moved stands there by a copy and a store -/
def lay (l : List Int) (off : Nat) (ys : List Int) : List Int := l.take off ++ (ys ++ l.drop (off + ys.length))
theorem lay_length {l ys : List Int} {off : Nat} (h : off + ys.length ≤ l.length) : (lay l off ys).length = l.length := by unfold lay; simp; omega
theorem mv_get {l : List Int} {i p : Nat} (x : Int) (hi : i < l.length) (hp : p < l.length) (k : Nat) : (mv l i p x)[k]? = if k < p then (if k < i then l[k]? else l[k + 1]?) else if k = p then some x else if k - 1 < i then l[k - 1]? else l[k]? := by
  have e : l.take i ++ l.drop (i + 1) = l.eraseIdx i := (List.eraseIdx_eq_take_drop_succ l i).symm
  unfold mv
  rw [e]
  have hl : ((l.eraseIdx i).take p).length = p := by rw [List.length_take, List.length_eraseIdx]; simp [hi]; omega
  rw [List.getElem?_append, hl]
  by_cases h1 : k < p
  · rw [if_pos h1, if_pos h1, List.getElem?_take, if_pos h1, List.getElem?_eraseIdx]
  · rw [if_neg h1, if_neg h1, List.getElem?_cons]
    by_cases h2 : k = p
    · rw [if_pos (by omega), if_pos h2]
    · rw [if_neg (by omega), if_neg h2, List.getElem?_drop, List.getElem?_eraseIdx]
      have e1 : p + (k - p - 1) = k - 1 := by omega
      have e2 : k - 1 + 1 = k := by omega
      rw [e1, e2]
theorem lay_get {l ys : List Int} {off : Nat} (h : off + ys.length ≤ l.length) (k : Nat) : (lay l off ys)[k]? = if k < off then l[k]? else if k < off + ys.length then ys[k - off]? else l[k]? := by
  unfold lay
  have hl : (l.take off).length = off := by rw [List.length_take]; omega
  rw [List.getElem?_append, hl]
  by_cases h1 : k < off
  · rw [if_pos h1, if_pos h1, List.getElem?_take, if_pos h1]
  · rw [if_neg h1, if_neg h1, List.getElem?_append]
    by_cases h2 : k < off + ys.length
    · rw [if_pos (by omega), if_pos h2]
    · rw [if_neg (by omega), if_neg h2, List.getElem?_drop]
      congr 1
      omega
theorem mv_up {l : List Int} {i p : Nat} (x : Int) (h : i < p) (hp : p < l.length) : (lay l i ((l.drop (i + 1)).take (p - i))).set p x = mv l i p x := by
  have hc : ((l.drop (i + 1)).take (p - i)).length = p - i := by simp; omega
  apply List.ext_getElem?
  intro k
  rw [mv_get x (by omega) hp, List.getElem?_set, lay_length (by omega), lay_get (by omega), hc, List.getElem?_take, List.getElem?_drop]
  by_cases h1 : p = k
  · rw [if_pos h1, if_pos hp, if_neg (by omega), if_pos h1.symm]
  · rw [if_neg h1]
    by_cases h2 : k < i
    · rw [if_pos h2, if_pos (by omega), if_pos h2]
    · rw [if_neg h2]
      by_cases h3 : k < p
      · rw [if_pos (by omega), if_pos (by omega), if_pos h3, if_neg h2]
        congr 1
        omega
      · rw [if_neg (by omega), if_neg h3, if_neg (by omega), if_neg (by omega)]
theorem mv_down {l : List Int} {i p : Nat} (x : Int) (h : p ≤ i) (hi : i < l.length) : (lay l (p + 1) ((l.drop p).take (i - p))).set p x = mv l i p x := by
  have hc : ((l.drop p).take (i - p)).length = i - p := by simp; omega
  apply List.ext_getElem?
  intro k
  rw [mv_get x hi (by omega), List.getElem?_set, lay_length (by omega), lay_get (by omega), hc, List.getElem?_take, List.getElem?_drop]
  by_cases h1 : p = k
  · rw [if_pos h1, if_pos (by omega), if_neg (by omega), if_pos h1.symm]
  · rw [if_neg h1]
    by_cases h2 : k < p
    · rw [if_pos (by omega), if_pos h2, if_pos (by omega)]
    · by_cases h3 : k - 1 < i
      · rw [if_neg (by omega), if_pos (by omega), if_pos (by omega), if_neg h2, if_neg (fun e => h1 e.symm), if_pos h3]
        congr 1
        omega
      · rw [if_neg (by omega), if_neg (by omega), if_neg h2, if_neg (fun e => h1 e.symm), if_neg h3]
/-! one behind the other -/
/-- The one ahead of place k; 0: none. -/
def ahead (l : List Int) (k : Nat) : Int := if k = 0 then 0 else l.getD (k - 1) 0
theorem getD_mem {l : List Int} {k : Nat} (h : k < l.length) : l.getD k 0 ∈ l := by
  rw [List.getD_eq_getElem?_getD, List.getElem?_eq_getElem h]
  exact List.getElem_mem h
theorem idx_at {l : List Int} (hn : l.Nodup) {k : Nat} (h : k < l.length) : idx l (l.getD k 0) = k := by
  refine idx_hit k h rfl fun j hj e => ?_
  have h1 : l[j]'(by omega) = l[k] := by
    have e1 : l.getD j 0 = l[j]'(by omega) := by rw [List.getD_eq_getElem?_getD, List.getElem?_eq_getElem (by omega)]; rfl
    have e2 : l.getD k 0 = l[k] := by rw [List.getD_eq_getElem?_getD, List.getElem?_eq_getElem h]; rfl
    rw [← e1, ← e2]; exact e
  exact List.pairwise_iff_getElem.1 hn j k (by omega) h hj h1
theorem ahead_ne {l : List Int} (hr : Rt l) {k : Nat} (hk : k ≤ l.length) (h0 : k ≠ 0) : ahead l k ≠ 0 := by
  unfold ahead
  rw [if_neg h0]
  have := (hr.1 _ (getD_mem (l := l) (k := k - 1) (by omega))).1
  omega
theorem next_ahead {l : List Int} (hr : Rt l) {k : Nat} (hk : k ≤ l.length) : nextAt l (ahead l k) = k := by
  unfold nextAt
  by_cases h0 : k = 0
  · subst h0
    rw [if_pos (by unfold ahead; rw [if_pos rfl])]
    rfl
  · rw [if_neg (ahead_ne hr hk h0)]
    have e : ahead l k = l.getD (k - 1) 0 := by unfold ahead; rw [if_neg h0]
    rw [e, if_pos (getD_mem (by omega)), idx_at hr.2 (by omega)]
    omega
theorem next_in {l : List Int} (hr : Rt l) {k : Nat} (hk : k < l.length) : nextV l (ahead l k) = l.getD k 0 ∧ nextB l (ahead l k) = true := by
  unfold nextV nextB
  rw [next_ahead hr (by omega)]
  exact ⟨atV_in k hk, atB_in k hk⟩
theorem next_end {l : List Int} (hr : Rt l) : nextV l (ahead l l.length) = 0 ∧ nextB l (ahead l l.length) = false := by
  unfold nextV nextB
  rw [next_ahead hr (Nat.le_refl _)]
  exact ⟨atV_out (.inr (by omega)), atB_out (.inr (by omega))⟩
theorem prev_in {l : List Int} (hr : Rt l) {k : Nat} (hk : k < l.length) : prevV l (l.getD k 0) = ahead l k ∧ prevB l (l.getD k 0) = (ahead l k != 0) := by
  unfold prevV prevB
  rw [idx_at hr.2 hk]
  by_cases h0 : k = 0
  · subst h0
    refine ⟨by rw [atV_out (.inl (by omega))]; rfl, ?_⟩
    rw [atB_out (.inl (by omega))]
    rfl
  · have e : (k : Int) - 1 = ((k - 1 : Nat) : Int) := by omega
    have e2 : ahead l k = l.getD (k - 1) 0 := by unfold ahead; rw [if_neg h0]
    rw [e, atV_in _ (by omega), atB_in _ (by omega)]
    refine ⟨e2.symm, ?_⟩
    have := ahead_ne hr (by omega : k ≤ l.length) h0
    rw [bne_iff_ne.2 this]
theorem ahead_succ (l : List Int) (k : Nat) : ahead l (k + 1) = l.getD k 0 := by unfold ahead; simp
end Go.Proofs.YtakgepdlninnhaaDoor.Om
