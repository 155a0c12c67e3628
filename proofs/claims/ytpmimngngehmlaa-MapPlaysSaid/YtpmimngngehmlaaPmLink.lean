/-
  Trees of pairs and the document's own answers on lists of pairs say the same. Not a statement of the seat.
-/
import Derived.Test.YtpmimngngehmlaaPmFin2
import Derived.Test.YtpmimngngehmlaaPmAt
import Derived.Test.YtpmimngngehmlaaPmRef1
import Derived.Test.YtpmimngngehmlaaPmRef2
import Derived.Test.YtpmimngngehmlaaPmRef3
namespace Go.Proofs.Ytpmimngngehmlaa.F
open Go.ChangeShapes Go.WideShapes Go.ChangeAt Go.RowKit Base
/-- By rising keys. -/
def SortL (l : List Pai) : Prop := l.Pairwise fun a b => a.k < b.k
theorem SortL.node {l r : List Pai} {p : Pai} (h : SortL (l ++ p :: r)) : SortL l ∧ SortL r ∧ (∀ x ∈ l, x.k < p.k) ∧ (∀ x ∈ r, p.k < x.k) := by
  unfold SortL at *
  rw [List.pairwise_append, List.pairwise_cons] at h
  exact ⟨h.1, h.2.1.2, fun x hx => h.2.2 x hx p (List.mem_cons_self ..), h.2.1.1⟩
theorem SortL.mk {l r : List Pai} {p : Pai} (h1 : SortL l) (h2 : SortL r) (h3 : ∀ x ∈ l, x.k < p.k) (h4 : ∀ x ∈ r, p.k < x.k) : SortL (l ++ p :: r) := by
  unfold SortL at *
  rw [List.pairwise_append, List.pairwise_cons]
  refine ⟨h1, ⟨h4, h2⟩, fun x hx y hy => ?_⟩
  rcases List.mem_cons.1 hy with rfl | hy
  · exact h3 x hx
  · exact Int.lt_trans (h3 x hx) (h4 y hy)
/-- A tree, parted at a key: what is less, what is greater; what is found, put in, taken out there. -/
theorem split_tree (key val : Int) (t : Tre) (h : SortL t.list) : ∃ A B, (∀ p ∈ A, p.k < key) ∧ (∀ p ∈ B, key < p.k) ∧ ((t.has key = false ∧ t.list = A ++ B ∧ t.look key = (0, false)) ∨ ∃ v, t.has key = true ∧ t.list = A ++ ⟨key, v⟩ :: B ∧ t.look key = (v, true)) ∧
    (Tre.ins key val t).list = A ++ ⟨key, val⟩ :: B ∧ (t.has key = true → (Tre.del key t).list = A ++ B) ∧ t.rank key = A.length := by
  induction t with
  | nil => exact ⟨[], [], by simp, by simp, .inl ⟨rfl, rfl, rfl⟩, rfl, fun h => absurd h (by simp [Tre.has]), rfl⟩
  | node l k v r ihl ihr =>
    obtain ⟨h1, h2, h3, h4⟩ := SortL.node (p := ⟨k, v⟩) h
    simp only at h3 h4
    rcases (show key < k ∨ k < key ∨ key = k by omega) with hk | hk | hk
    · obtain ⟨A, B, a1, a2, a3, a4, a5, a6⟩ := ihl h1
      refine ⟨A, B ++ ⟨k, v⟩ :: r.list, a1, fun p hp => ?_, ?_, ?_, fun hh => ?_, ?_⟩
      · rcases List.mem_append.1 hp with hp | hp
        · exact a2 p hp
        · rcases List.mem_cons.1 hp with rfl | hp
          · exact hk
          · exact Int.lt_trans hk (h4 p hp)
      · simp only [Tre.has, Tre.look, if_pos hk, Tre.list]
        rcases a3 with ⟨b1, b2, b3⟩ | ⟨v', b1, b2, b3⟩
        · exact .inl ⟨b1, by rw [b2, List.append_assoc], b3⟩
        · exact .inr ⟨v', b1, by rw [b2]; simp, b3⟩
      · simp only [Tre.ins, if_pos hk]
        rw [Tre.lev_list, a4]; simp
      · simp only [Tre.has, if_pos hk] at hh
        simp only [Tre.del, if_pos hk]
        rw [Tre.lev_list, a5 hh]; simp
      · simp only [Tre.rank, if_pos (Int.le_of_lt hk)]
        exact a6
    · obtain ⟨A, B, a1, a2, a3, a4, a5, a6⟩ := ihr h2
      have hn : ¬ key < k := by omega
      refine ⟨l.list ++ ⟨k, v⟩ :: A, B, fun p hp => ?_, a2, ?_, ?_, fun hh => ?_, ?_⟩
      · rcases List.mem_append.1 hp with hp | hp
        · exact Int.lt_trans (h3 p hp) hk
        · rcases List.mem_cons.1 hp with rfl | hp
          · exact hk
          · exact a1 p hp
      · simp only [Tre.has, Tre.look, if_neg hn, if_pos hk, Tre.list]
        rcases a3 with ⟨b1, b2, b3⟩ | ⟨v', b1, b2, b3⟩
        · exact .inl ⟨b1, by rw [b2]; simp, b3⟩
        · exact .inr ⟨v', b1, by rw [b2]; simp, b3⟩
      · simp only [Tre.ins, if_neg hn, if_pos hk]
        rw [Tre.lev_list, a4]; simp
      · simp only [Tre.has, if_neg hn, if_pos hk] at hh
        simp only [Tre.del, if_neg hn, if_pos hk]
        rw [Tre.lev_list, a5 hh]; simp
      · simp only [Tre.rank, if_neg (show ¬ key ≤ k by omega)]
        rw [a6, List.length_append, List.length_cons, Tre.list_len]; omega
    · subst hk
      refine ⟨l.list, r.list, h3, h4, .inr ⟨v, ?_, rfl, ?_⟩, ?_, fun _ => ?_, ?_⟩
      · simp [Tre.has]
      · simp [Tre.look]
      · simp only [Tre.ins, if_neg (Int.lt_irrefl _)]
        exact Tre.lev_list ..
      · by_cases e1 : l = .nil
        · subst e1; simp [Tre.del, Tre.list]
        · by_cases e2 : r = .nil
          · subst e2
            cases l with
            | nil => exact absurd rfl e1
            | node => simp [Tre.del, Tre.list]
          · rw [Tre.del_eq _ _ _ _ e1 e2, Tre.lev_list, Tre.pop_list e2]
      · simp only [Tre.rank, if_pos (Int.le_refl _)]
        have hz : ∀ (t : Tre), SortL t.list → (∀ x ∈ t.list, x.k < key) → t.rank key = t.size := by
          intro t
          induction t with
          | nil => intros; rfl
          | node l k v r _ ih =>
            intro h hx
            obtain ⟨_, g2, _, _⟩ := SortL.node (p := ⟨k, v⟩) h
            have hk : k < key := hx ⟨k, v⟩ (by simp [Tre.list])
            simp only [Tre.rank, if_neg (show ¬ key ≤ k by omega), Tre.size]
            rw [ih g2 (fun x hx' => hx x (by simp [Tre.list, hx']))]
        rw [hz l h1 h3, Tre.list_len]
theorem putF_low (key val : Int) : ∀ (A : List Pai) (s : List Pai), (∀ p ∈ A, p.k < key) → A.foldl (putStep key val) (s, false) = (s ++ A, false)
  | [], s, _ => by simp
  | p :: A, s, h => by
    have hp : p.k < key := h p (List.mem_cons_self ..)
    have h1 : (p.k == key) = false := by rw [beq_eq_false_iff_ne]; omega
    have h2 : decide (key ≤ p.k) = false := by rw [decide_eq_false_iff_not]; omega
    rw [List.foldl_cons, show putStep key val (s, false) p = (s ++ [p], false) by unfold putStep; simp [h1, h2], putF_low key val A _ (fun q hq => h q (List.mem_cons_of_mem _ hq))]
    simp
theorem putF_high (key val : Int) : ∀ (B : List Pai) (s : List Pai), (∀ p ∈ B, key < p.k) → B.foldl (putStep key val) (s, true) = (s ++ B, true)
  | [], s, _ => by simp
  | p :: B, s, h => by
    have hp : key < p.k := h p (List.mem_cons_self ..)
    have h1 : (p.k == key) = false := by rw [beq_eq_false_iff_ne]; omega
    rw [List.foldl_cons, show putStep key val (s, true) p = (s ++ [p], true) by unfold putStep; simp [h1], putF_high key val B _ (fun q hq => h q (List.mem_cons_of_mem _ hq))]
    simp
theorem putL_new {key val : Int} {A B : List Pai} (hA : ∀ p ∈ A, p.k < key) (hB : ∀ p ∈ B, key < p.k) : putL key val (A ++ B) = A ++ ⟨key, val⟩ :: B := by
  unfold putL putF
  rw [List.foldl_append, putF_low key val A [] hA, List.nil_append]
  cases B with
  | nil => simp
  | cons p B =>
    have hp : key < p.k := hB p (List.mem_cons_self ..)
    have h1 : (p.k == key) = false := by rw [beq_eq_false_iff_ne]; omega
    have h2 : decide (key ≤ p.k) = true := by rw [decide_eq_true_eq]; omega
    rw [List.foldl_cons, show putStep key val (A, false) p = (A ++ [⟨key, val⟩] ++ [p], true) by unfold putStep; simp [h1, h2], putF_high key val B _ (fun q hq => hB q (List.mem_cons_of_mem _ hq))]
    simp
theorem putL_old {key val v : Int} {A B : List Pai} (hA : ∀ p ∈ A, p.k < key) (hB : ∀ p ∈ B, key < p.k) : putL key val (A ++ ⟨key, v⟩ :: B) = A ++ ⟨key, val⟩ :: B := by
  unfold putL putF
  rw [List.foldl_append, putF_low key val A [] hA, List.nil_append, List.foldl_cons, show putStep key val (A, false) ⟨key, v⟩ = (A ++ [⟨key, val⟩], true) by unfold putStep; simp, putF_high key val B _ hB]
  simp
theorem delL_ne {key : Int} {A : List Pai} (h : ∀ p ∈ A, p.k ≠ key) : delL key A = A ∧ hasL key A = false ∧ A.find? (fun p => p.k == key) = none := by
  refine ⟨?_, ?_, ?_⟩
  · unfold delL
    rw [List.filter_eq_self]
    intro p hp
    simp [h p hp]
  · unfold hasL
    rw [List.any_eq_false]
    intro p hp
    simp [h p hp]
  · rw [List.find?_eq_none]
    intro p hp
    simp [h p hp]
theorem rankL_all {key : Int} {A : List Pai} (h : ∀ p ∈ A, p.k < key) : rankL key A = A.length := by
  unfold rankL
  rw [List.countP_eq_length]
  intro p hp
  simp [h p hp]
theorem rankL_none {key : Int} {A : List Pai} (h : ∀ p ∈ A, key ≤ p.k) : rankL key A = 0 := by
  unfold rankL
  rw [List.countP_eq_zero]
  intro p hp
  simp [h p hp]
/-- The tree and the list say the same. -/
theorem link (key val : Int) (t : Tre) (h : SortL t.list) : (Tre.ins key val t).list = putL key val t.list ∧ SortL (Tre.ins key val t).list ∧ t.has key = hasL key t.list ∧ t.look key = getL key t.list ∧ t.rank key = rankL key t.list ∧ (t.has key = true → (Tre.del key t).list = delL key t.list ∧ SortL (Tre.del key t).list) := by
  obtain ⟨A, B, a1, a2, a3, a4, a5, a6⟩ := split_tree key val t h
  have hAn : ∀ p ∈ A, p.k ≠ key := fun p hp e => by have := a1 p hp; omega
  have hBn : ∀ p ∈ B, p.k ≠ key := fun p hp e => by have := a2 p hp; omega
  have dA := delL_ne hAn
  have dB := delL_ne hBn
  have hrank : ∀ M : List Pai, (∀ p ∈ M, key ≤ p.k) → t.list = A ++ M → t.rank key = rankL key t.list := fun M hM e => by
    rw [a6, e]
    unfold rankL
    rw [List.countP_append]
    have h1 := rankL_all a1
    have h2 := rankL_none hM
    unfold rankL at h1 h2
    rw [h1, h2]; omega
  rcases a3 with ⟨b1, b2, b3⟩ | ⟨v, b1, b2, b3⟩
  · have hsA : SortL A ∧ SortL B := by unfold SortL at *; rw [b2, List.pairwise_append] at h; exact ⟨h.1, h.2.1⟩
    refine ⟨by rw [a4, b2, putL_new a1 a2], by rw [a4]; exact SortL.mk hsA.1 hsA.2 a1 a2, ?_, ?_, hrank B (fun p hp => Int.le_of_lt (a2 p hp)) b2, fun hh => by rw [b1] at hh; cases hh⟩
    · rw [b1, b2]; unfold hasL at *; rw [List.any_append, dA.2.1, dB.2.1]; rfl
    · rw [b3, b2]; unfold getL; rw [List.find?_append, dA.2.2, dB.2.2]; rfl
  · rw [b2] at h
    obtain ⟨c1, c2, _, _⟩ := SortL.node h
    refine ⟨by rw [a4, b2, putL_old a1 a2], by rw [a4]; exact SortL.mk c1 c2 a1 a2, ?_, ?_, hrank (⟨key, v⟩ :: B) (fun p hp => ?_) b2, fun hh => ⟨?_, ?_⟩⟩
    · rw [b1, b2]; unfold hasL; rw [List.any_append, List.any_cons]; simp
    · rw [b3, b2]; unfold getL; rw [List.find?_append, dA.2.2, List.find?_cons]; simp
    · rcases List.mem_cons.1 hp with rfl | hp
      · exact Int.le_refl _
      · exact Int.le_of_lt (a2 p hp)
    · rw [a5 hh, b2]; unfold delL at *; rw [List.filter_append, List.filter_cons, dA.1, dB.1]; simp
    · rw [a5 hh]; unfold SortL at *; rw [List.pairwise_append]
      exact ⟨c1, c2, fun x hx y hy => Int.lt_trans (a1 x hx) (a2 y hy)⟩
theorem nth_list : ∀ (t : Tre) (i : Int), (0 ≤ i ∧ i < (t.size : Int) → t.nth i = (t.list.getD i.toNat Pai.zero, true)) ∧ (¬ (0 ≤ i ∧ i < (t.size : Int)) → t.nth i = (Pai.zero, false))
  | .nil, i => ⟨fun h => by simp only [Tre.size] at h; omega, fun _ => rfl⟩
  | .node l k v r, i => by
    have hl := nth_list l i
    have hr := nth_list r (i - ((l.size : Int) + 1))
    have e := Tre.list_len l
    simp only [Tre.nth, Tre.size, Tre.list]
    refine ⟨fun h => ?_, fun h => ?_⟩
    · split
      · rw [hl.1 (by omega), List.getD_eq_getElem?_getD, List.getD_eq_getElem?_getD, List.getElem?_append_left (by omega)]
      · split
        · rw [hr.1 (by omega), List.getD_eq_getElem?_getD, List.getD_eq_getElem?_getD, List.getElem?_append_right (by omega), show i.toNat - l.list.length = (i - ((l.size : Int) + 1)).toNat + 1 by omega, List.getElem?_cons_succ]
        · rw [List.getD_eq_getElem?_getD, List.getElem?_append_right (by omega), show i.toNat - l.list.length = 0 by omega]; rfl
    · split
      · exact hl.2 (by omega)
      · split
        · exact hr.2 (by omega)
        · omega
theorem sq_step {m a b : Nat} (ha : 2 ^ m ≤ a * a) (hb : 2 ^ m ≤ 2 * (b * b)) : 2 ^ (m + 1) ≤ (a + b) * (a + b) := by
  have e : (a + b) * (a + b) = a * a + a * b + (a * b + b * b) := by rw [Nat.add_mul, Nat.mul_add, Nat.mul_add, Nat.mul_comm b a]
  rw [e, Nat.pow_succ]
  rcases Nat.le_total b a with h | h
  · have : b * b ≤ a * b := Nat.mul_le_mul_right b h
    omega
  · have : a * a ≤ b * b := Nat.mul_le_mul h h
    omega
theorem sq_half {m n b : Nat} (h : 2 ^ n ≤ b * b) (hm : m ≤ n + 1) : 2 ^ m ≤ 2 * (b * b) := by
  have : 2 ^ m ≤ 2 ^ (n + 1) := Nat.pow_le_pow_right (by decide) hm
  rw [Nat.pow_succ] at this
  omega
/-- How many a tree of a height has at least. -/
theorem bal_size : ∀ (t : Tre), t.bal → 2 ^ t.high ≤ (t.size + 1) * (t.size + 1)
  | .nil, _ => by simp [Tre.high, Tre.size]
  | .node l k v r, h => by
    obtain ⟨h1, h2, h3, h4⟩ := h
    have il := bal_size l h1
    have ir := bal_size r h2
    simp only [Tre.high, Tre.size]
    rcases Nat.le_total r.high l.high with e | e
    · rw [Nat.max_eq_left e, Nat.add_comm 1]
      have := sq_step il (sq_half ir h3)
      rwa [show l.size + 1 + (r.size + 1) = l.size + 1 + r.size + 1 by omega] at this
    · rw [Nat.max_eq_right e, Nat.add_comm 1]
      have := sq_step ir (sq_half il h4)
      rwa [show r.size + 1 + (l.size + 1) = l.size + 1 + r.size + 1 by omega] at this
end Go.Proofs.Ytpmimngngehmlaa.F
