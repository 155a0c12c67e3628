/-
  Contracts of small functions, several texts laid into one. Not a statement of the seat.
-/
import Derived.Test.YtbgepeokadmemaaHead3
import Derived.Deep.Cut
import Derived.Deep.CutRange
import Derived.Deep.DeepCutAuto
import Derived.Deep.RegionHeld3
import Derived.Test.YtbgepeokadmemaaHead1
namespace Go.Proofs.Ytbgepeokadmemaa.F
open Go.ChangeShapes Go.WideShapes Go.ChangeAt Go.RowKit Base
end Go.Proofs.Ytbgepeokadmemaa.F
namespace Go.Proofs.Ytbgepeokadmemaa.F
open Go.ChangeShapes Go.WideShapes Go.ChangeAt Go.RowKit Base
end Go.Proofs.Ytbgepeokadmemaa.F
namespace Go.Proofs.Ytbgepeokadmemaa.F
open Go.ChangeShapes Go.WideShapes Go.ChangeAt Go.RowKit Base
end Go.Proofs.Ytbgepeokadmemaa.F
namespace Go.Proofs.Ytbgepeokadmemaa.F
open Go.ChangeShapes Go.WideShapes Go.ChangeAt Go.RowKit Base
end Go.Proofs.Ytbgepeokadmemaa.F
namespace Go.Proofs.Ytbgepeokadmemaa.F
open Go.ChangeShapes Go.WideShapes Go.ChangeAt Go.RowKit Base
end Go.Proofs.Ytbgepeokadmemaa.F
namespace Go.Proofs.Ytbgepeokadmemaa.F
open Go.ChangeShapes Go.WideShapes Go.ChangeAt Go.RowKit Base
end Go.Proofs.Ytbgepeokadmemaa.F
namespace Go.Proofs.Ytbgepeokadmemaa.F
open Go.ChangeShapes Go.WideShapes Go.ChangeAt Go.RowKit Base
/-- Is a key in a tree, where it would be looked for? -/
def Tre.has (key : Int) : Tre → Bool
  | .nil => false
  | .node l k _ r => if key < k then l.has key else if k < key then r.has key else true
theorem Tr.oks {zs : List Cel} (h : ∀ x ∈ zs, x.ok) : ∀ {t : Tre} {i : Int}, Tr zs t i → ∀ p ∈ t.list, p.ok
  | .nil, _, _ => fun p hp => by simp [Tre.list] at hp
  | .node l k v r, i, ht => by
    obtain ⟨_, a, b, hc, hl, hr⟩ := ht
    have hco := celAt_ok h i
    rw [hc] at hco
    intro p hp
    simp only [Tre.list, List.mem_append, List.mem_cons] at hp
    rcases hp with hp | rfl | hp
    · exact Tr.oks h hl p hp
    · unfold Cel.ok at hco; unfold Pai.ok; simp only at hco ⊢; omega
    · exact Tr.oks h hr p hp
end Go.Proofs.Ytbgepeokadmemaa.F
namespace Go.Proofs.Ytbgepeokadmemaa.F
open Go.ChangeShapes Go.WideShapes Go.ChangeAt Go.RowKit Base
/-- A tree of a list, by halves. -/
def mkT (l : List Pai) : Tre := match h : l with
  | [] => .nil
  | p :: t => .node (mkT (l.take (l.length / 2))) (l.getD (l.length / 2) Pai.zero).k (l.getD (l.length / 2) Pai.zero).v (mkT (l.drop (l.length / 2 + 1)))
termination_by l.length
decreasing_by
  all_goals (subst h; simp; omega)
theorem mkT_nil : mkT [] = .nil := by rw [mkT]
theorem mkT_node {l : List Pai} (h : 0 < l.length) : mkT l = .node (mkT (l.take (l.length / 2))) (l.getD (l.length / 2) Pai.zero).k (l.getD (l.length / 2) Pai.zero).v (mkT (l.drop (l.length / 2 + 1))) := by
  cases l with
  | nil => simp at h
  | cons p t => rw [mkT]
theorem pai_split' {l : List Pai} {k : Nat} (hk : k < l.length) : l = l.take k ++ ⟨(l.getD k Pai.zero).k, (l.getD k Pai.zero).v⟩ :: l.drop (k + 1) := by
  have h1 : l.getD k Pai.zero = l[k] := by rw [List.getD_eq_getElem?_getD, List.getElem?_eq_getElem hk]; rfl
  show l = l.take k ++ l.getD k Pai.zero :: l.drop (k + 1)
  rw [h1, ← List.drop_eq_getElem_cons hk, List.take_append_drop]
theorem mkT_list : ∀ (n : Nat) (l : List Pai), l.length = n → (mkT l).list = l := by
  intro n
  induction n using Nat.strongRecOn with
  | ind n ih =>
    intro l hl
    by_cases h0 : l.length = 0
    · rw [List.length_eq_zero_iff.1 h0, mkT_nil]; rfl
    · have hm : l.length / 2 < l.length := by omega
      rw [mkT_node (by omega), Tre.list, ih _ (by rw [List.length_take]; omega) (l.take (l.length / 2)) rfl, ih _ (by rw [List.length_drop]; omega) (l.drop (l.length / 2 + 1)) rfl]
      exact (pai_split' hm).symm
theorem mkT_size (l : List Pai) : (mkT l).size = l.length := by rw [← Tre.list_len, mkT_list _ l rfl]
theorem mkT_high : ∀ (n : Nat) (l : List Pai), l.length = n → (mkT l).high = hg n ∧ (mkT l).bal := by
  intro n
  induction n using Nat.strongRecOn with
  | ind n ih =>
    intro l hl
    by_cases h0 : l.length = 0
    · rw [List.length_eq_zero_iff.1 h0, mkT_nil, ← hl, h0, hg_zero]; exact ⟨rfl, trivial⟩
    · rw [mkT_node (by omega)]
      have h1 := ih _ (by rw [List.length_take]; omega) (l.take (l.length / 2)) rfl
      have h2 := ih _ (by rw [List.length_drop]; omega) (l.drop (l.length / 2 + 1)) rfl
      rw [List.length_take, Nat.min_eq_left (by omega)] at h1
      rw [List.length_drop] at h2
      have h3 : hg (l.length - (l.length / 2 + 1)) ≤ hg (l.length / 2) ∧ hg (l.length / 2) ≤ hg (l.length - (l.length / 2 + 1)) + 1 := by
        rcases (show l.length - (l.length / 2 + 1) = l.length / 2 ∨ l.length / 2 = l.length - (l.length / 2 + 1) + 1 by omega) with e | e
        · rw [e]; omega
        · have := hg_step (l.length - (l.length / 2 + 1)); rw [← e] at this; omega
      simp only [Tre.high, Tre.bal]
      refine ⟨?_, h1.2, h2.2, ?_, ?_⟩
      · have e := hg_pos (show 0 < l.length by omega)
        rw [h1.1, h2.1, ← hl, e]; omega
      · rw [h1.1, h2.1]; omega
      · rw [h1.1, h2.1]; omega
/-- A list of pairs in memory, beside some blocks. -/
def PL (w : World) (v : Value) (l : List Pai) (F : Nat → Prop) : Prop :=
  (l = [] ∧ ∃ p c, v = .slice p 0 c) ∨ ∃ g off c, v = .slice (some ⟨g, off, none⟩) l.length c ∧ l.length ≤ c ∧ g < w.heap.size ∧ ¬ F g ∧ ∀ k, k < l.length → w.cell? ⟨g, off + k * 2, none⟩ = some (.int .i64 (l.getD k Pai.zero).k) ∧ w.cell? ⟨g, off + k * 2 + 1, none⟩ = some (.int .i64 (l.getD k Pai.zero).v)
theorem PL.keep {w w' : World} {v : Value} {l : List Pai} {F F' : Nat → Prop} (h : PL w v l F) (hs : w.heap.size ≤ w'.heap.size) (hk : ∀ g, g < w.heap.size → ¬ F g → w'.heap[g]? = w.heap[g]? ∧ ¬ F' g) : PL w' v l F' := by
  rcases h with h | ⟨g, off, c, hv, h1, h2, h3, h4⟩
  · exact .inl h
  · refine .inr ⟨g, off, c, hv, h1, Nat.lt_of_lt_of_le h2 hs, (hk g h2 h3).2, fun k hk' => ?_⟩
    have key : ∀ j, w'.cell? ⟨g, j, none⟩ = w.cell? ⟨g, j, none⟩ := fun j => World.cell?_of_block (a := ⟨g, j, none⟩) (hk g h2 h3).1
    rw [key, key]
    exact h4 k hk'
theorem PL.cut {w : World} {g off c : Nat} {l : List Pai} {F : Nat → Prop} (hc : l.length ≤ c) (hg : g < w.heap.size) (hF : ¬ F g) (h : ∀ k, k < l.length → w.cell? ⟨g, off + k * 2, none⟩ = some (.int .i64 (l.getD k Pai.zero).k) ∧ w.cell? ⟨g, off + k * 2 + 1, none⟩ = some (.int .i64 (l.getD k Pai.zero).v)) {n : Nat} (hn : n ≤ l.length) : PL w (.slice (some ⟨g, off, none⟩) n c) (l.take n) F := by
  have hl : (l.take n).length = n := by rw [List.length_take]; omega
  refine .inr ⟨g, off, c, by rw [hl], by omega, hg, hF, fun k hk => ?_⟩
  rw [hl] at hk
  have : (l.take n).getD k Pai.zero = l.getD k Pai.zero := by
    rw [List.getD_eq_getElem?_getD, List.getD_eq_getElem?_getD, List.getElem?_take, if_pos hk]
  rw [this]
  exact h k (by omega)
theorem PL.rest {w : World} {g off c : Nat} {l : List Pai} {F : Nat → Prop} (hc : l.length ≤ c) (hg : g < w.heap.size) (hF : ¬ F g) (h : ∀ k, k < l.length → w.cell? ⟨g, off + k * 2, none⟩ = some (.int .i64 (l.getD k Pai.zero).k) ∧ w.cell? ⟨g, off + k * 2 + 1, none⟩ = some (.int .i64 (l.getD k Pai.zero).v)) {n : Nat} (hn : n ≤ l.length) : PL w (.slice (some ⟨g, (if c = n then off else off + n * 2), none⟩) (l.length - n) (c - n)) (l.drop n) F := by
  have hl : (l.drop n).length = l.length - n := by rw [List.length_drop]
  by_cases e : l.length = n
  · refine .inl ⟨by rw [List.drop_eq_nil_iff]; omega, _, _, by rw [show l.length - n = 0 by omega]⟩
  · refine .inr ⟨g, off + n * 2, c - n, by rw [hl, if_neg (by omega)], by omega, hg, hF, fun k hk => ?_⟩
    rw [hl] at hk
    have : (l.drop n).getD k Pai.zero = l.getD (n + k) Pai.zero := by
      rw [List.getD_eq_getElem?_getD, List.getD_eq_getElem?_getD, List.getElem?_drop]
    rw [this]
    have := h (n + k) (by omega)
    rw [show off + n * 2 + k * 2 = off + (n + k) * 2 by omega]
    exact this
end Go.Proofs.Ytbgepeokadmemaa.F
namespace Go.Proofs.Ytbgepeokadmemaa.F
open Go.ChangeShapes Go.WideShapes Go.ChangeAt Go.RowKit Base
end Go.Proofs.Ytbgepeokadmemaa.F
namespace Go.Proofs.Ytbgepeokadmemaa.F
open Go.ChangeShapes Go.WideShapes Go.ChangeAt Go.RowKit Base
section
variable {Bs : Nat} {pv : Value} {o : Option Nat} {room : Nat} {zs : List Cel} {w0 w w' : World} {v0 v v' : Value} {l l' : List Pai} {bs : List (Nat × Obj)}
end
end Go.Proofs.Ytbgepeokadmemaa.F
namespace Go.Proofs.Ytbgepeokadmemaa.F
open Go.ChangeShapes Go.WideShapes Go.ChangeAt Go.RowKit Base
namespace Tre
def look (key : Int) : Tre → Int × Bool
  | nil => (0, false)
  | node l k v r => if key < k then l.look key else if k < key then r.look key else (v, true)
def nth (i : Int) : Tre → Pai × Bool
  | nil => (Pai.zero, false)
  | node l k v r => if i < (l.size : Int) then l.nth i else if (l.size : Int) < i then r.nth (i - ((l.size : Int) + 1)) else (⟨k, v⟩, true)
def rank (key : Int) : Tre → Nat
  | nil => 0
  | node l k _ r => if key ≤ k then l.rank key else l.size + 1 + r.rank key
theorem rank_le (key : Int) (t : Tre) : t.rank key ≤ t.size := by
  induction t with
  | nil => simp [rank]
  | node l k v r h1 h2 => simp only [rank, size]; split <;> omega
end Tre
end Go.Proofs.Ytbgepeokadmemaa.F
namespace Go.Proofs.Ytbgepeokadmemaa.F
open Go.ChangeShapes Go.WideShapes Go.ChangeAt Go.RowKit Base
/-- What done leaves behind a builder's way. -/
def Fin (B : Nat) (pv : Value) (o : Option Nat) (room : Nat) (zs : List Cel) (P : List Cel → Int → Prop) (Z : Prop) (w wb : World) (e : Ending) (w' : World) : Prop :=
  ∃ root' why zs' o', e = .returned (.tuple #[.agg #[pv, .int .i64 root'], .int .i64 why]) ∧ Hid (ArV w' pv o' room zs' ∧ Mv o o' w ∧ Fr (VF pv o) w w' ∧ MRes P Z zs zs' root' why ∧ ∀ g, g < wb.heap.size → w.heap.size ≤ g → g ≠ B → w'.heap[g]? = wb.heap[g]? ∧ ¬ VF pv o' g)
end Go.Proofs.Ytbgepeokadmemaa.F
namespace Go.Proofs.Ytbgepeokadmemaa.F
open Go.ChangeShapes Go.WideShapes Go.ChangeAt Go.RowKit Base
theorem look_has (key : Int) (t : Tre) : (t.look key).2 = t.has key := by
  induction t with
  | nil => rfl
  | node l k v r h1 h2 =>
    simp only [Tre.look, Tre.has]
    split
    · exact h1
    · split
      · exact h2
      · rfl
end Go.Proofs.Ytbgepeokadmemaa.F
namespace Go.Proofs.Ytbgepeokadmemaa.F
open Go.ChangeShapes Go.WideShapes Go.ChangeAt Go.RowKit Base
/-- What At leaves. -/
def PaiBoolM (p : Pai) (is : Bool) (w : World) (e : Ending) (w' : World) : Prop := e = .returned (.tuple #[.agg #[.int .i64 p.k, .int .i64 p.v], .bool is]) ∧ Below w.heap.size w w'
end Go.Proofs.Ytbgepeokadmemaa.F
namespace Go.Proofs.Ytbgepeokadmemaa.F
open Go.ChangeShapes Go.WideShapes Go.ChangeAt Go.RowKit Base
/-- By rising keys. -/
def SortL (l : List Pai) : Prop := l.Pairwise fun a b => a.k < b.k
theorem SortL.node {l r : List Pai} {p : Pai} (h : SortL (l ++ p :: r)) : SortL l ∧ SortL r ∧ (∀ x ∈ l, x.k < p.k) ∧ (∀ x ∈ r, p.k < x.k) := by
  unfold SortL at *
  rw [List.pairwise_append, List.pairwise_cons] at h
  exact ⟨h.1, h.2.1.2, fun x hx => h.2.2 x hx p (List.mem_cons_self ..), h.2.1.1⟩
theorem SortL.mk {l r : List Pai} {p : Pai} (h1 : SortL l) (h2 : SortL r) (h3 : ∀ x ∈ l, x.k < p.k) (h4 : ∀ x ∈ r, p.k < x.k) : SortL (l ++ p :: r) := by
  unfold SortL at *
  rw [List.pairwise_append, List.pairwise_cons]
  refine ⟨h1, ⟨h4, h2⟩, fun x hx y hy => ?_⟩
  rcases List.mem_cons.1 hy with rfl | hy
  · exact h3 x hx
  · exact Int.lt_trans (h3 x hx) (h4 y hy)
/-- A tree, parted at a key: what is less, what is greater; what is found, put in, taken out there. -/
theorem split_tree (key val : Int) (t : Tre) (h : SortL t.list) : ∃ A B, (∀ p ∈ A, p.k < key) ∧ (∀ p ∈ B, key < p.k) ∧ ((t.has key = false ∧ t.list = A ++ B ∧ t.look key = (0, false)) ∨ ∃ v, t.has key = true ∧ t.list = A ++ ⟨key, v⟩ :: B ∧ t.look key = (v, true)) ∧
    (Tre.ins key val t).list = A ++ ⟨key, val⟩ :: B ∧ (t.has key = true → (Tre.del key t).list = A ++ B) ∧ t.rank key = A.length := by
  induction t with
  | nil => exact ⟨[], [], by simp, by simp, .inl ⟨rfl, rfl, rfl⟩, rfl, fun h => absurd h (by simp [Tre.has]), rfl⟩
  | node l k v r ihl ihr =>
    obtain ⟨h1, h2, h3, h4⟩ := SortL.node (p := ⟨k, v⟩) h
    simp only at h3 h4
    rcases (show key < k ∨ k < key ∨ key = k by omega) with hk | hk | hk
    · obtain ⟨A, B, a1, a2, a3, a4, a5, a6⟩ := ihl h1
      refine ⟨A, B ++ ⟨k, v⟩ :: r.list, a1, fun p hp => ?_, ?_, ?_, fun hh => ?_, ?_⟩
      · rcases List.mem_append.1 hp with hp | hp
        · exact a2 p hp
        · rcases List.mem_cons.1 hp with rfl | hp
          · exact hk
          · exact Int.lt_trans hk (h4 p hp)
      · simp only [Tre.has, Tre.look, if_pos hk, Tre.list]
        rcases a3 with ⟨b1, b2, b3⟩ | ⟨v', b1, b2, b3⟩
        · exact .inl ⟨b1, by rw [b2, List.append_assoc], b3⟩
        · exact .inr ⟨v', b1, by rw [b2]; simp, b3⟩
      · simp only [Tre.ins, if_pos hk]
        rw [Tre.lev_list, a4]; simp
      · simp only [Tre.has, if_pos hk] at hh
        simp only [Tre.del, if_pos hk]
        rw [Tre.lev_list, a5 hh]; simp
      · simp only [Tre.rank, if_pos (Int.le_of_lt hk)]
        exact a6
    · obtain ⟨A, B, a1, a2, a3, a4, a5, a6⟩ := ihr h2
      have hn : ¬ key < k := by omega
      refine ⟨l.list ++ ⟨k, v⟩ :: A, B, fun p hp => ?_, a2, ?_, ?_, fun hh => ?_, ?_⟩
      · rcases List.mem_append.1 hp with hp | hp
        · exact Int.lt_trans (h3 p hp) hk
        · rcases List.mem_cons.1 hp with rfl | hp
          · exact hk
          · exact a1 p hp
      · simp only [Tre.has, Tre.look, if_neg hn, if_pos hk, Tre.list]
        rcases a3 with ⟨b1, b2, b3⟩ | ⟨v', b1, b2, b3⟩
        · exact .inl ⟨b1, by rw [b2]; simp, b3⟩
        · exact .inr ⟨v', b1, by rw [b2]; simp, b3⟩
      · simp only [Tre.ins, if_neg hn, if_pos hk]
        rw [Tre.lev_list, a4]; simp
      · simp only [Tre.has, if_neg hn, if_pos hk] at hh
        simp only [Tre.del, if_neg hn, if_pos hk]
        rw [Tre.lev_list, a5 hh]; simp
      · simp only [Tre.rank, if_neg (show ¬ key ≤ k by omega)]
        rw [a6, List.length_append, List.length_cons, Tre.list_len]; omega
    · subst hk
      refine ⟨l.list, r.list, h3, h4, .inr ⟨v, ?_, rfl, ?_⟩, ?_, fun _ => ?_, ?_⟩
      · simp [Tre.has]
      · simp [Tre.look]
      · simp only [Tre.ins, if_neg (Int.lt_irrefl _)]
        exact Tre.lev_list ..
      · by_cases e1 : l = .nil
        · subst e1; simp [Tre.del, Tre.list]
        · by_cases e2 : r = .nil
          · subst e2
            cases l with
            | nil => exact absurd rfl e1
            | node => simp [Tre.del, Tre.list]
          · rw [Tre.del_eq _ _ _ _ e1 e2, Tre.lev_list, Tre.pop_list e2]
      · simp only [Tre.rank, if_pos (Int.le_refl _)]
        have hz : ∀ (t : Tre), SortL t.list → (∀ x ∈ t.list, x.k < key) → t.rank key = t.size := by
          intro t
          induction t with
          | nil => intros; rfl
          | node l k v r _ ih =>
            intro h hx
            obtain ⟨_, g2, _, _⟩ := SortL.node (p := ⟨k, v⟩) h
            have hk : k < key := hx ⟨k, v⟩ (by simp [Tre.list])
            simp only [Tre.rank, if_neg (show ¬ key ≤ k by omega), Tre.size]
            rw [ih g2 (fun x hx' => hx x (by simp [Tre.list, hx']))]
        rw [hz l h1 h3, Tre.list_len]
theorem putF_low (key val : Int) : ∀ (A : List Pai) (s : List Pai), (∀ p ∈ A, p.k < key) → A.foldl (putStep key val) (s, false) = (s ++ A, false)
  | [], s, _ => by simp
  | p :: A, s, h => by
    have hp : p.k < key := h p (List.mem_cons_self ..)
    have h1 : (p.k == key) = false := by rw [beq_eq_false_iff_ne]; omega
    have h2 : decide (key ≤ p.k) = false := by rw [decide_eq_false_iff_not]; omega
    rw [List.foldl_cons, show putStep key val (s, false) p = (s ++ [p], false) by unfold putStep; simp [h1, h2], putF_low key val A _ (fun q hq => h q (List.mem_cons_of_mem _ hq))]
    simp
theorem putF_high (key val : Int) : ∀ (B : List Pai) (s : List Pai), (∀ p ∈ B, key < p.k) → B.foldl (putStep key val) (s, true) = (s ++ B, true)
  | [], s, _ => by simp
  | p :: B, s, h => by
    have hp : key < p.k := h p (List.mem_cons_self ..)
    have h1 : (p.k == key) = false := by rw [beq_eq_false_iff_ne]; omega
    rw [List.foldl_cons, show putStep key val (s, true) p = (s ++ [p], true) by unfold putStep; simp [h1], putF_high key val B _ (fun q hq => h q (List.mem_cons_of_mem _ hq))]
    simp
theorem putL_new {key val : Int} {A B : List Pai} (hA : ∀ p ∈ A, p.k < key) (hB : ∀ p ∈ B, key < p.k) : putL key val (A ++ B) = A ++ ⟨key, val⟩ :: B := by
  unfold putL putF
  rw [List.foldl_append, putF_low key val A [] hA, List.nil_append]
  cases B with
  | nil => simp
  | cons p B =>
    have hp : key < p.k := hB p (List.mem_cons_self ..)
    have h1 : (p.k == key) = false := by rw [beq_eq_false_iff_ne]; omega
    have h2 : decide (key ≤ p.k) = true := by rw [decide_eq_true_eq]; omega
    rw [List.foldl_cons, show putStep key val (A, false) p = (A ++ [⟨key, val⟩] ++ [p], true) by unfold putStep; simp [h1, h2], putF_high key val B _ (fun q hq => hB q (List.mem_cons_of_mem _ hq))]
    simp
theorem putL_old {key val v : Int} {A B : List Pai} (hA : ∀ p ∈ A, p.k < key) (hB : ∀ p ∈ B, key < p.k) : putL key val (A ++ ⟨key, v⟩ :: B) = A ++ ⟨key, val⟩ :: B := by
  unfold putL putF
  rw [List.foldl_append, putF_low key val A [] hA, List.nil_append, List.foldl_cons, show putStep key val (A, false) ⟨key, v⟩ = (A ++ [⟨key, val⟩], true) by unfold putStep; simp, putF_high key val B _ hB]
  simp
theorem delL_ne {key : Int} {A : List Pai} (h : ∀ p ∈ A, p.k ≠ key) : delL key A = A ∧ hasL key A = false ∧ A.find? (fun p => p.k == key) = none := by
  refine ⟨?_, ?_, ?_⟩
  · unfold delL
    rw [List.filter_eq_self]
    intro p hp
    simp [h p hp]
  · unfold hasL
    rw [List.any_eq_false]
    intro p hp
    simp [h p hp]
  · rw [List.find?_eq_none]
    intro p hp
    simp [h p hp]
theorem rankL_all {key : Int} {A : List Pai} (h : ∀ p ∈ A, p.k < key) : rankL key A = A.length := by
  unfold rankL
  rw [List.countP_eq_length]
  intro p hp
  simp [h p hp]
theorem rankL_none {key : Int} {A : List Pai} (h : ∀ p ∈ A, key ≤ p.k) : rankL key A = 0 := by
  unfold rankL
  rw [List.countP_eq_zero]
  intro p hp
  simp [h p hp]
/-- The tree and the list say the same. -/
theorem link (key val : Int) (t : Tre) (h : SortL t.list) : (Tre.ins key val t).list = putL key val t.list ∧ SortL (Tre.ins key val t).list ∧ t.has key = hasL key t.list ∧ t.look key = getL key t.list ∧ t.rank key = rankL key t.list ∧ (t.has key = true → (Tre.del key t).list = delL key t.list ∧ SortL (Tre.del key t).list) := by
  obtain ⟨A, B, a1, a2, a3, a4, a5, a6⟩ := split_tree key val t h
  have hAn : ∀ p ∈ A, p.k ≠ key := fun p hp e => by have := a1 p hp; omega
  have hBn : ∀ p ∈ B, p.k ≠ key := fun p hp e => by have := a2 p hp; omega
  have dA := delL_ne hAn
  have dB := delL_ne hBn
  have hrank : ∀ M : List Pai, (∀ p ∈ M, key ≤ p.k) → t.list = A ++ M → t.rank key = rankL key t.list := fun M hM e => by
    rw [a6, e]
    unfold rankL
    rw [List.countP_append]
    have h1 := rankL_all a1
    have h2 := rankL_none hM
    unfold rankL at h1 h2
    rw [h1, h2]; omega
  rcases a3 with ⟨b1, b2, b3⟩ | ⟨v, b1, b2, b3⟩
  · have hsA : SortL A ∧ SortL B := by unfold SortL at *; rw [b2, List.pairwise_append] at h; exact ⟨h.1, h.2.1⟩
    refine ⟨by rw [a4, b2, putL_new a1 a2], by rw [a4]; exact SortL.mk hsA.1 hsA.2 a1 a2, ?_, ?_, hrank B (fun p hp => Int.le_of_lt (a2 p hp)) b2, fun hh => by rw [b1] at hh; cases hh⟩
    · rw [b1, b2]; unfold hasL at *; rw [List.any_append, dA.2.1, dB.2.1]; rfl
    · rw [b3, b2]; unfold getL; rw [List.find?_append, dA.2.2, dB.2.2]; rfl
  · rw [b2] at h
    obtain ⟨c1, c2, _, _⟩ := SortL.node h
    refine ⟨by rw [a4, b2, putL_old a1 a2], by rw [a4]; exact SortL.mk c1 c2 a1 a2, ?_, ?_, hrank (⟨key, v⟩ :: B) (fun p hp => ?_) b2, fun hh => ⟨?_, ?_⟩⟩
    · rw [b1, b2]; unfold hasL; rw [List.any_append, List.any_cons]; simp
    · rw [b3, b2]; unfold getL; rw [List.find?_append, dA.2.2, List.find?_cons]; simp
    · rcases List.mem_cons.1 hp with rfl | hp
      · exact Int.le_refl _
      · exact Int.le_of_lt (a2 p hp)
    · rw [a5 hh, b2]; unfold delL at *; rw [List.filter_append, List.filter_cons, dA.1, dB.1]; simp
    · rw [a5 hh]; unfold SortL at *; rw [List.pairwise_append]
      exact ⟨c1, c2, fun x hx y hy => Int.lt_trans (a1 x hx) (a2 y hy)⟩
theorem nth_list : ∀ (t : Tre) (i : Int), (0 ≤ i ∧ i < (t.size : Int) → t.nth i = (t.list.getD i.toNat Pai.zero, true)) ∧ (¬ (0 ≤ i ∧ i < (t.size : Int)) → t.nth i = (Pai.zero, false))
  | .nil, i => ⟨fun h => by simp only [Tre.size] at h; omega, fun _ => rfl⟩
  | .node l k v r, i => by
    have hl := nth_list l i
    have hr := nth_list r (i - ((l.size : Int) + 1))
    have e := Tre.list_len l
    simp only [Tre.nth, Tre.size, Tre.list]
    refine ⟨fun h => ?_, fun h => ?_⟩
    · split
      · rw [hl.1 (by omega), List.getD_eq_getElem?_getD, List.getD_eq_getElem?_getD, List.getElem?_append_left (by omega)]
      · split
        · rw [hr.1 (by omega), List.getD_eq_getElem?_getD, List.getD_eq_getElem?_getD, List.getElem?_append_right (by omega), show i.toNat - l.list.length = (i - ((l.size : Int) + 1)).toNat + 1 by omega, List.getElem?_cons_succ]
        · rw [List.getD_eq_getElem?_getD, List.getElem?_append_right (by omega), show i.toNat - l.list.length = 0 by omega]; rfl
    · split
      · exact hl.2 (by omega)
      · split
        · exact hr.2 (by omega)
        · omega
theorem sq_step {m a b : Nat} (ha : 2 ^ m ≤ a * a) (hb : 2 ^ m ≤ 2 * (b * b)) : 2 ^ (m + 1) ≤ (a + b) * (a + b) := by
  have e : (a + b) * (a + b) = a * a + a * b + (a * b + b * b) := by rw [Nat.add_mul, Nat.mul_add, Nat.mul_add, Nat.mul_comm b a]
  rw [e, Nat.pow_succ]
  rcases Nat.le_total b a with h | h
  · have : b * b ≤ a * b := Nat.mul_le_mul_right b h
    omega
  · have : a * a ≤ b * b := Nat.mul_le_mul h h
    omega
theorem sq_half {m n b : Nat} (h : 2 ^ n ≤ b * b) (hm : m ≤ n + 1) : 2 ^ m ≤ 2 * (b * b) := by
  have : 2 ^ m ≤ 2 ^ (n + 1) := Nat.pow_le_pow_right (by decide) hm
  rw [Nat.pow_succ] at this
  omega
/-- How many a tree of a height has at least. -/
theorem bal_size : ∀ (t : Tre), t.bal → 2 ^ t.high ≤ (t.size + 1) * (t.size + 1)
  | .nil, _ => by simp [Tre.high, Tre.size]
  | .node l k v r, h => by
    obtain ⟨h1, h2, h3, h4⟩ := h
    have il := bal_size l h1
    have ir := bal_size r h2
    simp only [Tre.high, Tre.size]
    rcases Nat.le_total r.high l.high with e | e
    · rw [Nat.max_eq_left e, Nat.add_comm 1]
      have := sq_step il (sq_half ir h3)
      rwa [show l.size + 1 + (r.size + 1) = l.size + 1 + r.size + 1 by omega] at this
    · rw [Nat.max_eq_right e, Nat.add_comm 1]
      have := sq_step ir (sq_half il h4)
      rwa [show r.size + 1 + (l.size + 1) = l.size + 1 + r.size + 1 by omega] at this
end Go.Proofs.Ytbgepeokadmemaa.F
namespace Go.Proofs.Ytbgepeokadmemaa.F
open Go.ChangeShapes Go.WideShapes Go.ChangeAt Go.RowKit Base
theorem MP.step {pv : Value} {o : Option Nat} {room : Nat} {zs : List Cel} {P : List Cel → Int → Prop} {Z : Prop} {w : World} {e : Ending} {w' : World} (h : MP pv o room zs P Z w e w') : ∃ root' why zs', ArStep pv o room zs' (.tuple #[.agg #[pv, .int .i64 root'], .int .i64 why]) w e w' ∧ Hid (MRes P Z zs zs' root' why) := by
  obtain ⟨root', why, zs', o', he, h1, h2, h3, h4⟩ := h
  exact ⟨root', why, zs', ⟨he, o', h1, h2, h3⟩, Lib.hid h4⟩
theorem MP.nil_put {P : List Cel → Int → Prop} {Z : Prop} {w : World} {e : Ending} {w' : World} (h : MP (.pointer none) none 0 [] P Z w e w') (hP : ∀ root', ¬ P [] root') : e = .returned (.tuple #[.agg #[.pointer none, .int .i64 0], .int .i64 2]) ∧ Below w.heap.size w w' := by
  obtain ⟨root', why, zs', o', he, h1, h2, h3, h4⟩ := h
  have hz : zs' = [] := by
    rcases h1 with ⟨_, _, _, h⟩ | ⟨b, h, _⟩
    · exact h
    · cases h
  subst hz
  rcases h4 with ⟨_, h⟩ | ⟨rfl, _, rfl, _⟩
  · exact absurd h (hP _)
  · exact ⟨he, h3.below (fun g hg => by rcases hg with k | k <;> cases k) (Nat.le_refl _)⟩
/-- A box of the call's own is stored into. -/
theorem PS.store {w0 w w' : World} {pv : Value} {o : Option Nat} {room : Nat} {zs : List Cel} {bs : List (Nat × Obj)} {g : Nat} {ob ob' : Obj} (h : PS w0 w pv o room zs (.slice none 0 0) [] ((g, ob) :: bs)) (hn : ∀ p ∈ bs, p.1 ≠ g) (h0 : w0.heap.size ≤ g) (hs : Stored w g ob' w') : PS w0 w' pv o room zs (.slice none 0 0) [] ((g, ob') :: bs) := by
  obtain ⟨⟨k1, k2, k3⟩, _, k5⟩ := h
  have hg := k5 (g, ob) (List.mem_cons_self ..)
  have hf : Fr (fun k => k = g) w w' := ⟨hs.1, hs.2.1, hs.2.2.1, by rw [hs.2.2.2.1]; exact Nat.le_refl _, fun k _ hn => hs.2.2.2.2.2 k hn⟩
  refine ⟨⟨k1.fr hf (fun k hv e => hg.2 (e ▸ hv)), hs.below k2 h0, k3⟩, QS.nil _ _ _, fun p hp => ?_⟩
  rcases List.mem_cons.1 hp with rfl | hp
  · exact ⟨hs.2.2.2.2.1, hg.2⟩
  · have := k5 p (List.mem_cons_of_mem _ hp)
    exact ⟨(hs.2.2.2.2.2 p.1 (hn p hp)).trans this.1, this.2⟩
theorem ins_size1 (key val : Int) (t : Tre) : t.size ≤ (Tre.ins key val t).size ∧ (Tre.ins key val t).size ≤ t.size + 1 ∧ 1 ≤ (Tre.ins key val t).size := by
  induction t with
  | nil => simp [Tre.ins, Tre.size]
  | node l k v r h1 h2 =>
    have hl : ∀ (l : Tre) (k v : Int) (r : Tre), (Tre.lev l k v r).size = l.size + 1 + r.size := fun l k v r => by
      rw [← Tre.list_len, Tre.lev_list, List.length_append, List.length_cons, Tre.list_len, Tre.list_len]; omega
    simp only [Tre.ins]
    split
    · rw [hl]; simp only [Tre.size]; omega
    · split
      · rw [hl]; simp only [Tre.size]; omega
      · rw [hl]; simp only [Tre.size]; omega
/-- How high a tree is at most. -/
theorem high_le {t : Tre} (hb : t.bal) {n m : Nat} (hs : t.size ≤ n) (hm : (n + 1) * (n + 1) < 2 ^ (m + 1)) : t.high ≤ m := by
  have h := bal_size t hb
  have h2 : (t.size + 1) * (t.size + 1) ≤ (n + 1) * (n + 1) := Nat.mul_le_mul (by omega) (by omega)
  have h3 : 2 ^ t.high < 2 ^ (m + 1) := Nat.lt_of_le_of_lt (Nat.le_trans h h2) hm
  have := (Nat.pow_lt_pow_iff_right (by decide : 1 < 2)).1 h3
  omega
theorem SortL.lt {l : List Pai} (h : SortL l) {i j : Nat} (hij : i < j) (hj : j < l.length) : (l.getD i Pai.zero).k < (l.getD j Pai.zero).k := by
  rw [List.getD_eq_getElem?_getD, List.getD_eq_getElem?_getD, List.getElem?_eq_getElem (by omega), List.getElem?_eq_getElem hj]
  exact (List.pairwise_iff_getElem.1 h) i j (by omega) hj hij
theorem SortL.rank {l : List Pai} (h : SortL l) {j : Nat} (hj : j < l.length) : rankL (l.getD j Pai.zero).k l = j := by
  have e : l = l.take j ++ l.drop j := (List.take_append_drop j l).symm
  have h1 : ∀ p ∈ l.take j, p.k < (l.getD j Pai.zero).k := fun p hp => by
    obtain ⟨i, hi, rfl⟩ := List.getElem_of_mem hp
    have hi' : i < j ∧ i < l.length := by rw [List.length_take] at hi; omega
    have := h.lt hi'.1 hj
    rw [List.getD_eq_getElem?_getD, List.getElem?_eq_getElem hi'.2] at this
    rw [List.getElem_take]
    exact this
  have h2 : ∀ p ∈ l.drop j, (l.getD j Pai.zero).k ≤ p.k := fun p hp => by
    obtain ⟨i, hi, rfl⟩ := List.getElem_of_mem hp
    have hi' : i < l.length - j := by simpa using hi
    rw [List.getElem_drop]
    by_cases h0 : i = 0
    · subst h0
      rw [List.getD_eq_getElem?_getD, List.getElem?_eq_getElem hj]; exact Int.le_refl _
    · have := h.lt (show j < j + i by omega) (by omega)
      rw [List.getD_eq_getElem?_getD (l := l) (i := j + i), List.getElem?_eq_getElem (by omega)] at this
      exact Int.le_of_lt this
  have h3 := rankL_all h1
  have h4 := rankL_none h2
  generalize (l.getD j Pai.zero).k = key at h3 h4 ⊢
  have : rankL key l = rankL key (l.take j) + rankL key (l.drop j) := by
    unfold rankL
    rw [← List.countP_append, List.take_append_drop]
  rw [this, h3, h4, List.length_take]; omega
end Go.Proofs.Ytbgepeokadmemaa.F
namespace Go.Proofs.Ytbgepeokadmemaa.F
open Go.ChangeShapes Go.WideShapes Go.ChangeAt Go.RowKit Base
/-- The block p holds the slice v of n elements of S cells, whose cells are xs; its block may be longer. -/
def RowB (T : TypeId) (S : Nat) (p : Nat × Obj) (v : Value) (n : Nat) (xs : List Value) : Prop :=
  xs.length = n * S ∧ ∃ cap cur, p.2 = .cells cur T (0, 0) ∧ v = .slice (some ⟨p.1, 0, none⟩) n cap ∧ n ≤ cap ∧ cap ≤ maxLen ∧ cur.size = cap * S ∧ cur.toList.take (n * S) = xs
theorem RowB.own {T : TypeId} {S B : Nat} {p : Nat × Obj} {v : Value} {n : Nat} {xs : List Value} {w : World} (h : RowB T S p v n xs) (hw : w.heap[p.1]? = some p.2) (hB : B ≤ p.1) : w.ownsRow B T S v n xs := by
  obtain ⟨h1, cap, cur, h2, h3, h4, h5, h6, h7⟩ := h
  exact ⟨h1, .inr ⟨p.1, cap, cur, h3, hB, by rw [hw, h2], h4, h5, h6, h7⟩⟩
theorem RowB.of {T : TypeId} {S B : Nat} {v : Value} {n : Nat} {xs : List Value} {w : World} (h : w.ownsRow B T S v n xs) (hn : 0 < n) : ∃ p, RowB T S p v n xs ∧ w.heap[p.1]? = some p.2 ∧ B ≤ p.1 ∧ v.ownBlock = some p.1 := by
  obtain ⟨h1, h⟩ := h
  rcases h with ⟨_, h0⟩ | ⟨g, cap, cur, hv, hB, hg, h2, h3, h4, h5⟩
  · omega
  · exact ⟨(g, .cells cur T (0, 0)), ⟨h1, cap, cur, rfl, hv, h2, h3, h4, h5⟩, hg, hB, by rw [hv]; rfl⟩
theorem RowB.block {T : TypeId} {S : Nat} {p : Nat × Obj} {v : Value} {n : Nat} {xs : List Value} (h : RowB T S p v n xs) : v.ownBlock = some p.1 := by
  obtain ⟨_, cap, cur, _, hv, _⟩ := h
  rw [hv]; rfl
/-- The cells of one element. -/
theorem RowB.open_ {T : TypeId} {S : Nat} {p : Nat × Obj} {v : Value} {n : Nat} {xs : List Value} (h : RowB T S p v n xs) : ∃ g cap, p.1 = g ∧ v = .slice (some ⟨g, 0, none⟩) n cap ∧ n ≤ cap ∧ ∀ w : World, w.heap[p.1]? = some p.2 → g < w.heap.size ∧ ∀ k, k < n * S → w.cell? ⟨g, k, none⟩ = xs[k]? := by
  obtain ⟨h1, cap, cur, h2, h3, h4, h5, h6, h7⟩ := h
  refine ⟨p.1, cap, rfl, h3, h4, fun w hw => ⟨heap_lt hw, fun k hk => ?_⟩⟩
  rw [h2] at hw
  have : n * S ≤ cap * S := Nat.mul_le_mul_right S h4
  have hx : xs[k]? = cur[k]? := by
    rw [← h7, List.getElem?_take, if_pos hk, Array.getElem?_toList]
  rw [hx]
  simp [World.cell?, hw]
/-- One that is typed out. -/
theorem RowB.lit {T : TypeId} {S : Nat} {g : Nat} {xs : List Value} (hl : xs.length = S) : RowB T S (g, .cells xs.toArray T (0, 0)) (.slice (some ⟨g, 0, none⟩) 1 1) 1 xs :=
  ⟨by omega, 1, xs.toArray, rfl, rfl, Nat.le_refl _, by simp [maxLen], by simpa using hl, by rw [List.take_of_length_le (by simp; omega)]⟩
section
variable {w0 w w' : World} {pv : Value} {o : Option Nat} {room : Nat} {zs : List Cel}
/-- A block that has come up since is kept, too. -/
theorem PS.keepNew {wa : World} {bs : List (Nat × Obj)} {g : Nat} {ob : Obj} (h : PS w0 wa pv o room zs (.slice none 0 0) [] bs) (hb : Below wa.heap.size wa w) (hg : w.heap[g]? = some ob) (h0 : wa.heap.size ≤ g) : PS w0 w pv o room zs (.slice none 0 0) [] ((g, ob) :: bs) := by
  have h2 := h.below hb
  refine ⟨h2.1, h2.2.1, fun p hp => ?_⟩
  rcases List.mem_cons.1 hp with rfl | hp
  · exact ⟨hg, fun k => by have := h.1.1.lt g k; omega⟩
  · exact h2.2.2 p hp
/-- A box, whose block has a name. -/
theorem PS.addAt {bs : List (Nat × Obj)} {g : Nat} (h : PS w0 w pv o room zs (.slice none 0 0) [] bs) (ob : Obj) (e : g = w.heap.size) : PS w0 (w.alloc ob) pv o room zs (.slice none 0 0) [] ((g, ob) :: bs) := by
  subst e
  exact h.add ob
/-- A block of the call's own is grown: it is another one, or holds more; all others stay. -/
theorem PS.grow {bs : List (Nat × Obj)} {p p' : Nat × Obj} (h : PS w0 w pv o room zs (.slice none 0 0) [] (p :: bs)) (hn : ∀ q ∈ bs, q.1 ≠ p.1) (h0 : w0.heap.size ≤ p.1) (hg : w.grownBy w' (some p.1)) (hp : w'.heap[p'.1]? = some p'.2) (he : p'.1 = p.1 ∨ p'.1 = w.heap.size) :
    PS w0 w' pv o room zs (.slice none 0 0) [] (p' :: bs) ∧ (∀ q ∈ bs, q.1 ≠ p'.1) ∧ w0.heap.size ≤ p'.1 := by
  obtain ⟨⟨k1, k2, k3⟩, _, k5⟩ := h
  have hp0 := k5 p (List.mem_cons_self ..)
  have hf : Fr (fun k => k = p.1) w w' := Fr.of_grown hg fun k hk => by injection hk with hk; exact hk.symm
  have hs := k2.size
  refine ⟨⟨⟨k1.fr hf (fun k hv e => hp0.2 (e ▸ hv)), ?_, k3⟩, QS.nil _ _ _, fun q hq => ?_⟩, fun q hq => ?_, ?_⟩
  · exact k2.grown hg hs (fun b hb => by injection hb with hb; omega)
  · rcases List.mem_cons.1 hq with rfl | hq
    · refine ⟨hp, ?_⟩
      rcases he with e | e
      · rw [e]; exact hp0.2
      · intro k; have := k1.lt _ k; omega
    · have := k5 q (List.mem_cons_of_mem _ hq)
      exact ⟨(hf.block (heap_lt this.1) (hn q hq)).trans this.1, this.2⟩
  · have := k5 q (List.mem_cons_of_mem _ hq)
    rcases he with e | e
    · rw [e]; exact hn q hq
    · have := heap_lt this.1; omega
  · rcases he with e | e <;> omega
end
/-- One more element is put behind a slice of the call's own. -/
theorem append_row {ops : Array Oper} {rest : List Oper} {oo : Oper} {a : Act} {Q : Exit → Act → World → Prop} (hgd : oo.guard = none) (s x : Operand) {T L : TypeId} {S bytes : Nat} {i0 : TypeInfo} {z : Value}
    (ho : oo.op = .call { callee := .builtin .append, args := #[s, x], argTypes := #[L, L] })
    (hL : Try.prog.underlying L = some (.slice T)) (hi : Try.prog.info? T = some i0) (hz : i0.zero = some z) (hs1 : i0.size = S) (hby : i0.bytes = bytes) (hzs : z.cells.size = S) (hS : 0 < S) (hbytes : bytes ≤ 1000)
    {w : World} {v : Value} {p : Nat × Obj} {n : Nat} {xs ys : List Value} {g' c : Nat} (h : RowB T S p v n xs) (hp : w.heap[p.1]? = some p.2) (hs : a.eval s = v) (hx : a.eval x = .slice (some ⟨g', 0, none⟩) 1 c) (hg : w.heap[g']? = some (.cells ys.toArray T))
    (hy : ys.length = S) (hone : ∀ u ∈ ys, u.oneCell' = true) (hl : n ≤ 100000)
    (hK : ∀ v' w' p', RowB T S p' v' (n + 1) (xs ++ ys) → w'.heap[p'.1]? = some p'.2 → w.grownBy w' (some p.1) → (p'.1 = p.1 ∨ p'.1 = w.heap.size) → wpList Try.prog ops Q rest (a.put oo.dst v') w') :
    wpList Try.prog ops Q (oo :: rest) a w := by
  refine wpList_plain hgd fun K hK' => ?_
  have hlt := heap_lt hp
  obtain ⟨v', w', hr, h2, h3, _, h5⟩ := run_append_own_at (P := Try.prog) w 0 L oo.type T i0 z S bytes hL hi hz hs1 hby hzs hS v n xs (h.own hp (Nat.zero_le _)) ⟨g', 0, none⟩ 1 c ys (by omega) (fun j u hu => by
    rw [add_plain]
    simp [World.cell?, hg, hu]) hone (by simp only [maxLen]; omega) (by
      have : (n + 1) * bytes ≤ 100001 * 1000 := Nat.mul_le_mul (by omega) hbytes
      omega) (Nat.zero_le _)
  obtain ⟨p', hp1, hp2, _, hp3⟩ := RowB.of h2 (by omega)
  rw [h.block] at h3 h5
  rw [hp3] at h5
  unfold Oper.wp execOp
  simp only [ho, resolve, invoke, builtin, Sem.run_bind, Sem.run_pure, Result.andThen_ok, List.map_toArray, List.map_cons, List.map_nil, hs, hx, hr]
  refine hK' _ _ (hK v' w' p' hp1 hp2 h3 ?_)
  rcases h5 with e | e <;> injection e with e
  · exact .inl e
  · exact .inr e
end Go.Proofs.Ytbgepeokadmemaa.F
namespace Go.Proofs.Ytbgepeokadmemaa.F
open Go.ChangeShapes Go.WideShapes Go.ChangeAt Go.RowKit Base
/-- A tree, its number, its list. -/
abbrev Ent := Tre × Int × Value
def rows4 (pv : Value) (l : List Ent) : List Value := l.flatMap fun e => [pv, .int .i64 e.2.1]
def rows5 (l : List Ent) : List Value := l.flatMap fun e => [e.2.2]
theorem rows4_snoc (pv : Value) (l : List Ent) (t : Tre) (r : Int) (v : Value) : rows4 pv (l ++ [(t, r, v)]) = rows4 pv l ++ [pv, .int .i64 r] := by simp [rows4]
theorem rows5_snoc (l : List Ent) (t : Tre) (r : Int) (v : Value) : rows5 (l ++ [(t, r, v)]) = rows5 l ++ [v] := by simp [rows5]
theorem ent_at (pv : Value) : ∀ (l : List Ent) (i : Nat), i < l.length → ∃ t r v, (t, r, v) ∈ l ∧ (rows4 pv l)[i * 2]? = some pv ∧ (rows4 pv l)[i * 2 + 1]? = some (.int .i64 r) ∧ (rows5 l)[i]? = some v
  | (t, r, v) :: l, 0, _ => ⟨t, r, v, List.mem_cons_self .., rfl, rfl, rfl⟩
  | e :: l, i + 1, h => by
    obtain ⟨t, r, v, h1, h2, h3, h4⟩ := ent_at pv l i (by simpa using h)
    refine ⟨t, r, v, List.mem_cons_of_mem _ h1, ?_, ?_, ?_⟩
    · rw [show (i + 1) * 2 = i * 2 + 1 + 1 by omega]; exact h2
    · rw [show (i + 1) * 2 + 1 = i * 2 + 1 + 1 + 1 by omega]; exact h3
    · exact h4
/-- A tree that Put, Del leave: there was room. -/
theorem put_room {n : Nat} {zs zs2 : List Cel} {t : Tre} {rt2 why key val : Int} (hn : n ≤ 61) (ht : SortL t.list ∧ t.bal ∧ t.size ≤ n) (hz : zs.length ≤ 80 * n) (hM : MRes (PutP zs (3 * t.high + 1) (Tre.ins key val t)) (65536 < zs.length + (3 * t.high + 1)) zs zs2 rt2 why) :
    why = 0 ∧ (∃ new, zs2 = zs ++ new) ∧ zs2.length ≤ 80 * n + 40 ∧ Tr zs2 (Tre.ins key val t) rt2 ∧ SortL (Tre.ins key val t).list ∧ (Tre.ins key val t).bal ∧ (Tre.ins key val t).size ≤ n + 1 := by
  obtain ⟨h2, h3, h4⟩ := ht
  have h11 : t.high ≤ 12 := high_le h3 (n := 61) (by omega) (by decide)
  have hi := ins_size1 key val t
  rcases hM with ⟨h0, ⟨new, he, hm⟩, ht⟩ | ⟨_, _, _, hz⟩
  · refine ⟨h0, ⟨new, he⟩, ?_, ht, (link key val t h2).2.1, (Tre.ins_bal key val h3).1, by omega⟩
    rw [he, List.length_append]; omega
  · omega
theorem del_size1 (key : Int) (t : Tre) (h : SortL t.list) (hk : t.has key = true) : (Tre.del key t).size ≤ t.size := by
  have := ((link key 0 t h).2.2.2.2.2 hk).1
  rw [← Tre.list_len, ← Tre.list_len, this]
  exact List.length_filter_le _ _
theorem del_room {n : Nat} {zs zs1 zs2 : List Cel} {t : Tre} {rt2 why key : Int} (hn : n ≤ 61) (ht : SortL t.list ∧ t.bal ∧ t.size ≤ n) (hk : t.has key = true) (he0 : ∃ new, zs1 = zs ++ new) (hz : zs1.length ≤ 80 * n + 40) (hM : MRes (PutP zs1 (3 * t.high) (Tre.del key t)) (65536 < zs1.length + 3 * t.high) zs1 zs2 rt2 why) :
    why = 0 ∧ (∃ new, zs2 = zs ++ new) ∧ zs2.length ≤ 80 * (n + 1) ∧ Tr zs2 (Tre.del key t) rt2 ∧ SortL (Tre.del key t).list ∧ (Tre.del key t).bal ∧ (Tre.del key t).size ≤ n + 1 := by
  obtain ⟨h2, h3, h4⟩ := ht
  have h11 : t.high ≤ 12 := high_le h3 (n := 61) (by omega) (by decide)
  have hd := del_size1 key t h2 hk
  rcases hM with ⟨h0, ⟨new, he, hm⟩, ht⟩ | ⟨_, _, _, hz⟩
  · obtain ⟨new0, he0⟩ := he0
    refine ⟨h0, ⟨new0 ++ new, by rw [he, he0, List.append_assoc]⟩, ?_, ht, ((link key 0 t h2).2.2.2.2.2 hk).2, (Tre.del_bal key h3).1, by omega⟩
    rw [he, List.length_append]; omega
  · omega
end Go.Proofs.Ytbgepeokadmemaa.F
namespace Go.Proofs.Ytbgepeokadmemaa.F
open Go.ChangeShapes Go.WideShapes Go.ChangeAt Go.RowKit Base
/-- An arena: its pointer, where its cells lie, its room, its cells. -/
structure Arn where
  pv : Value
  o : Option Nat
  room : Nat
  zs : List Cel
/-- The blocks es are the arena a, whatever else there is. -/
def Rest (es : List (Nat × Obj)) (a : Arn) : Prop := (∀ g, VF a.pv a.o g ↔ ∃ p ∈ es, p.1 = g) ∧ ∀ w : World, (∀ p ∈ es, w.heap[p.1]? = some p.2) → ArV w a.pv a.o a.room a.zs
theorem ownsRow_at {w w' : World} {B S n : Nat} {T : TypeId} {v : Value} {xs : List Value} (h : w.ownsRow B T S v n xs) (hk : ∀ g, v.ownBlock = some g → w'.heap[g]? = w.heap[g]?) : w'.ownsRow B T S v n xs := by
  obtain ⟨h1, h⟩ := h
  refine ⟨h1, ?_⟩
  rcases h with h | ⟨g, cap, cur, hv, hB, hg, h2⟩
  · exact .inl h
  · exact .inr ⟨g, cap, cur, hv, hB, (hk g (by rw [hv]; rfl)).trans hg, h2⟩
theorem ArV.rest {w : World} {pv : Value} {o : Option Nat} {room : Nat} {zs : List Cel} (h : ArV w pv o room zs) : ∃ es, (∀ p ∈ es, w.heap[p.1]? = some p.2) ∧ Rest es ⟨pv, o, room, zs⟩ := by
  rcases h with ⟨rfl, rfl, rfl, rfl⟩ | ⟨b, rfl, h⟩
  · refine ⟨[], (fun p hp => by cases hp), fun g => ⟨fun k => ?_, (fun ⟨p, hp, _⟩ => by cases hp)⟩, fun w _ => ArV.nil w⟩
    rcases k with k | k <;> cases k
  · have hl := h.lt
    obtain ⟨h1, h2, h3, h4, v, hv, hown, ho⟩ := h
    cases o with
    | none =>
      refine ⟨[(b, .cells #[.int .i64 (room : Int), v] 53)], fun p hp => by rw [List.mem_singleton.1 hp]; exact hv, fun g => ⟨fun k => ?_, fun ⟨p, hp, e⟩ => ?_⟩, fun w' hw => .inr ⟨b, rfl, h1, h2, h3, h4, v, hw (b, .cells #[.int .i64 (room : Int), v] 53) (List.mem_singleton.2 rfl), ownsRow_at hown (fun g hg => by rw [ho] at hg; cases hg), ho⟩⟩
      · rcases k with k | k
        · injection k with k; injection k with k; injection k with k
          exact ⟨_, List.mem_singleton.2 rfl, k⟩
        · cases k
      · rw [List.mem_singleton.1 hp] at e
        exact .inl (by rw [← e])
    | some g0 =>
      obtain ⟨hg0, hne⟩ := hl.2 g0 rfl
      obtain ⟨ob, hob⟩ : ∃ ob, w.heap[g0]? = some ob := ⟨_, Array.getElem?_eq_getElem hg0⟩
      refine ⟨[(b, .cells #[.int .i64 (room : Int), v] 53), (g0, ob)], fun p hp => ?_, fun g => ⟨fun k => ?_, fun ⟨p, hp, e⟩ => ?_⟩, fun w' hw => .inr ⟨b, rfl, h1, h2, h3, h4, v, hw (b, .cells #[.int .i64 (room : Int), v] 53) (by simp), ownsRow_at hown (fun g hg => by rw [ho] at hg; injection hg with hg; subst hg; rw [hob]; exact hw (g0, ob) (by simp)), ho⟩⟩
      · simp only [List.mem_cons, List.not_mem_nil, or_false] at hp
        rcases hp with rfl | rfl
        · exact hv
        · exact hob
      · rcases k with k | k
        · injection k with k; injection k with k; injection k with k
          exact ⟨_, List.mem_cons_self .., k⟩
        · injection k with k
          exact ⟨(g0, ob), by simp, k⟩
      · simp only [List.mem_cons, List.not_mem_nil, or_false] at hp
        rcases hp with rfl | rfl
        · exact .inl (by rw [← e])
        · exact .inr (by rw [← e])
/-- What was worked at is laid into boxes, another one is taken out of its. -/
theorem PS.switch {w0 w : World} {pv : Value} {o : Option Nat} {room : Nat} {zs : List Cel} {a : Arn} {es bs : List (Nat × Obj)} (h : PS w0 w pv o room zs (.slice none 0 0) [] (es ++ bs)) (hr : Rest es a) (h0 : ∀ p ∈ es, w0.heap.size ≤ p.1) (hd : ∀ p ∈ es, ∀ q ∈ bs, q.1 ≠ p.1) :
    ∃ es', Rest es' ⟨pv, o, room, zs⟩ ∧ PS w0 w a.pv a.o a.room a.zs (.slice none 0 0) [] (es' ++ bs) ∧ (∀ p ∈ es', w0.heap.size ≤ p.1) ∧ (∀ p ∈ es', ∀ q ∈ es ++ bs, q.1 ≠ p.1) := by
  obtain ⟨⟨k1, k2, k3⟩, _, k5⟩ := h
  obtain ⟨es', h1, h2⟩ := k1.rest
  have hv : ∀ p ∈ es', VF pv o p.1 := fun p hp => (h2.1 p.1).2 ⟨p, hp, rfl⟩
  have hdis : ∀ p ∈ es', ∀ q ∈ es ++ bs, q.1 ≠ p.1 := fun p hp q hq e => (k5 q hq).2 (e ▸ hv p hp)
  refine ⟨es', h2, ⟨⟨hr.2 w fun p hp => (k5 p (List.mem_append_left _ hp)).1, k2, fun g hg => ?_⟩, QS.nil _ _ _, fun q hq => ?_⟩, fun p hp => k3 _ (hv p hp), hdis⟩
  · obtain ⟨p, hp, e⟩ := (hr.1 g).1 hg
    exact e ▸ h0 p hp
  · rcases List.mem_append.1 hq with hq | hq
    · refine ⟨h1 q hq, fun k => ?_⟩
      obtain ⟨p, hp, e⟩ := (hr.1 q.1).1 k
      exact hdis q hq p (List.mem_append_left _ hp) e
    · refine ⟨(k5 q (List.mem_append_right _ hq)).1, fun k => ?_⟩
      obtain ⟨p, hp, e⟩ := (hr.1 q.1).1 k
      exact hd p hp q hq e.symm
end Go.Proofs.Ytbgepeokadmemaa.F
namespace Go.Proofs.Ytbgepeokadmemaa.F
open Go.ChangeShapes Go.WideShapes Go.ChangeAt Go.RowKit Base
/-- An arena and its blocks. -/
abbrev AB2 := Arn × List (Nat × Obj)
def flatA (ars : List AB2) : List (Nat × Obj) := ars.flatMap fun A => A.2
theorem mem_flatA {ars : List AB2} {q : Nat × Obj} : q ∈ flatA ars ↔ ∃ (i : Nat) (A : AB2), ars[i]? = some A ∧ q ∈ A.2 := by
  unfold flatA
  rw [List.mem_flatMap]
  constructor
  · rintro ⟨A, hA, hq⟩
    obtain ⟨i, hi⟩ := List.mem_iff_getElem?.1 hA
    exact ⟨i, A, hi, hq⟩
  · rintro ⟨i, A, hi, hq⟩
    exact ⟨A, List.mem_iff_getElem?.2 ⟨i, hi⟩, hq⟩
theorem mem_flatE {ars : List AB2} {j : Nat} {q : Nat × Obj} : q ∈ flatA (ars.eraseIdx j) ↔ ∃ (i : Nat) (A : AB2), i ≠ j ∧ ars[i]? = some A ∧ q ∈ A.2 := by
  unfold flatA
  rw [List.mem_flatMap]
  constructor
  · rintro ⟨A, hA, hq⟩
    obtain ⟨i, hi, he⟩ := List.mem_eraseIdx_iff_getElem?.1 hA
    exact ⟨i, A, hi, he, hq⟩
  · rintro ⟨i, A, hi, he, hq⟩
    exact ⟨A, List.mem_eraseIdx_iff_getElem?.2 ⟨i, hi, he⟩, hq⟩
/-- All arenas are at rest; beside them lie a row and lists. -/
def MA (w0 w : World) (pR : Nat × Obj) (lb : List (Nat × Obj)) (ars : List AB2) : Prop :=
  PS w0 w (.pointer none) none 0 [] (.slice none 0 0) [] (pR :: (lb ++ flatA ars)) ∧ w0.heap.size ≤ pR.1 ∧ (∀ (i : Nat) (A : AB2), ars[i]? = some A → Rest A.2 A.1 ∧ ∀ p ∈ A.2, w0.heap.size ≤ p.1) ∧
  (∀ q ∈ lb ++ flatA ars, q.1 ≠ pR.1) ∧ (∀ (i : Nat) (A : AB2), ars[i]? = some A → ∀ p ∈ A.2, ∀ q ∈ lb, q.1 ≠ p.1) ∧
  (∀ (i k : Nat) (A B : AB2), ars[i]? = some A → ars[k]? = some B → i ≠ k → ∀ p ∈ A.2, ∀ q ∈ B.2, q.1 ≠ p.1)
theorem rest_nil : Rest [] ⟨.pointer none, none, 0, []⟩ :=
  ⟨fun g => ⟨(fun k => by rcases k with k | k <;> cases k), (fun ⟨p, hp, _⟩ => by cases hp)⟩, fun w _ => ArV.nil w⟩
section
variable {w0 w w' : World} {pR : Nat × Obj} {lb nb : List (Nat × Obj)} {ars : List AB2} {j : Nat} {A : Arn} {es : List (Nat × Obj)}
/-- The arena j is taken up. -/
theorem MA.take (h : MA w0 w pR lb ars) (hj : ars[j]? = some (A, es)) : PS w0 w A.pv A.o A.room A.zs (.slice none 0 0) [] (pR :: (lb ++ flatA (ars.eraseIdx j))) := by
  obtain ⟨h1, h2, h3, h4, h5, h6⟩ := h
  have hd := h1.drop (bs' := es ++ (pR :: (lb ++ flatA (ars.eraseIdx j)))) (fun q hq => by
    simp only [List.mem_append, List.mem_cons] at hq ⊢
    rcases hq with hq | hq | hq | hq
    · exact .inr (.inr (mem_flatA.2 ⟨j, _, hj, hq⟩))
    · exact .inl hq
    · exact .inr (.inl hq)
    · obtain ⟨i, B, _, hi, hq⟩ := mem_flatE.1 hq
      exact .inr (.inr (mem_flatA.2 ⟨i, B, hi, hq⟩)))
  obtain ⟨es', _, hp, _, _⟩ := PS.switch hd (h3 j _ hj).1 (h3 j _ hj).2 (fun p hp q hq => by
    simp only [List.mem_append, List.mem_cons] at hq
    rcases hq with rfl | hq | hq
    · exact (h4 p (List.mem_append_right _ (mem_flatA.2 ⟨j, _, hj, hp⟩))).symm
    · exact h5 j _ hj p hp q hq
    · obtain ⟨i, B, hne, hi, hq⟩ := mem_flatE.1 hq
      exact h6 j i _ _ hj hi (fun e => hne e.symm) p hp q hq)
  exact hp.drop fun q hq => List.mem_append_right _ hq
theorem getElem?_put {ars : List AB2} {j i : Nat} {X B : AB2} (hj : j < ars.length) (h : (ars.set j X)[i]? = some B) : (i = j ∧ B = X) ∨ (i ≠ j ∧ ars[i]? = some B) := by
  rw [List.getElem?_set] at h
  by_cases e : j = i
  · rw [if_pos e, if_pos (by omega)] at h
    exact .inl ⟨e.symm, (Option.some.inj h).symm⟩
  · rw [if_neg e] at h
    exact .inr ⟨fun k => e k.symm, h⟩
/-- It is laid down again; what is new are lists. -/
theorem MA.lay (h : MA w0 w pR lb ars) (hj : ars[j]? = some (A, es)) {o' : Option Nat} {zs' : List Cel} (hp : PS w0 w' A.pv o' A.room zs' (.slice none 0 0) [] (nb ++ (pR :: (lb ++ flatA (ars.eraseIdx j))))) (hnb : ∀ q ∈ nb, w.heap.size ≤ q.1) :
    ∃ es', MA w0 w' pR (nb ++ lb) (ars.set j (⟨A.pv, o', A.room, zs'⟩, es')) ∧ ∀ p ∈ es', ∀ q ∈ nb, q.1 ≠ p.1 := by
  obtain ⟨h1, h2, h3, h4, h5, h6⟩ := h
  have hjl : j < ars.length := (List.getElem?_eq_some_iff.1 hj).1
  have hold : ∀ q ∈ pR :: (lb ++ flatA ars), q.1 < w.heap.size := fun q hq => heap_lt (h1.2.2 q hq).1
  obtain ⟨es', hr, hP, hb, hd⟩ := PS.switch (es := []) (bs := nb ++ (pR :: (lb ++ flatA (ars.eraseIdx j)))) hp rest_nil (fun p hp => by cases hp) (fun p hp => by cases hp)
  have hd' : ∀ p ∈ es', ∀ q ∈ nb ++ (pR :: (lb ++ flatA (ars.eraseIdx j))), q.1 ≠ p.1 := fun p hp q hq => hd p hp q hq
  have hfl : ∀ q, q ∈ flatA (ars.set j (⟨A.pv, o', A.room, zs'⟩, es')) → q ∈ es' ∨ q ∈ flatA (ars.eraseIdx j) := fun q hq => by
    obtain ⟨i, B, hi, hq⟩ := mem_flatA.1 hq
    rcases getElem?_put hjl hi with ⟨_, rfl⟩ | ⟨hne, hi⟩
    · exact .inl hq
    · exact .inr (mem_flatE.2 ⟨i, B, hne, hi, hq⟩)
  have hfe : ∀ q, q ∈ flatA (ars.eraseIdx j) → q ∈ flatA ars := fun q hq => by
    obtain ⟨i, B, _, hi, hq⟩ := mem_flatE.1 hq
    exact mem_flatA.2 ⟨i, B, hi, hq⟩
  refine ⟨es', ⟨hP.drop fun q hq => ?_, h2, fun i B hi => ?_, fun q hq => ?_, fun i B hi p hp q hq => ?_, fun i k B C hi hk hne p hp q hq => ?_⟩, fun p hp q hq => hd' p hp q (List.mem_append_left _ hq)⟩
  · simp only [List.mem_append, List.mem_cons] at hq ⊢
    rcases hq with hq | (hq | hq) | hq
    · exact .inr (.inr (.inl hq))
    · exact .inr (.inl hq)
    · exact .inr (.inr (.inr (.inl hq)))
    · rcases hfl q hq with hq | hq
      · exact .inl hq
      · exact .inr (.inr (.inr (.inr hq)))
  · rcases getElem?_put hjl hi with ⟨_, rfl⟩ | ⟨hne, hi⟩
    · exact ⟨hr, hb⟩
    · exact h3 i B hi
  · simp only [List.mem_append] at hq
    rcases hq with (hq | hq) | hq
    · have := hnb q hq; have := hold pR (List.mem_cons_self ..); omega
    · exact h4 q (List.mem_append_left _ hq)
    · rcases hfl q hq with hq | hq
      · exact (hd' q hq pR (by simp)).symm
      · exact h4 q (List.mem_append_right _ (hfe q hq))
  · rcases getElem?_put hjl hi with ⟨_, rfl⟩ | ⟨hne, hi⟩
    · exact hd' p hp q (by simp only [List.mem_append, List.mem_cons] at hq ⊢; rcases hq with hq | hq; exact .inl hq; exact .inr (.inr (.inl hq)))
    · rcases List.mem_append.1 hq with hq | hq
      · have := hnb q hq; have := hold p (by simp only [List.mem_append, List.mem_cons]; exact .inr (.inr (mem_flatA.2 ⟨i, B, hi, hp⟩))); omega
      · exact h5 i B hi p hp q hq
  · rcases getElem?_put hjl hi with ⟨e1, rfl⟩ | ⟨hne1, hi⟩ <;> rcases getElem?_put hjl hk with ⟨e2, rfl⟩ | ⟨hne2, hk⟩
    · omega
    · exact hd' p hp q (by simp only [List.mem_append, List.mem_cons]; exact .inr (.inr (.inr (mem_flatE.2 ⟨k, C, hne2, hk, hq⟩))))
    · exact (hd' q hq p (by simp only [List.mem_append, List.mem_cons]; exact .inr (.inr (.inr (mem_flatE.2 ⟨i, B, hne1, hi, hp⟩))))).symm
    · exact h6 i k B C hi hk hne p hp q hq
theorem flatA_snoc (ars : List AB2) (Y : AB2) (q : Nat × Obj) : q ∈ flatA (ars ++ [Y]) ↔ q ∈ flatA ars ∨ q ∈ Y.2 := by
  unfold flatA
  simp
theorem getElem?_snoc {ars : List AB2} {i : Nat} {Y B : AB2} (h : (ars ++ [Y])[i]? = some B) : (i = ars.length ∧ B = Y) ∨ (i < ars.length ∧ ars[i]? = some B) := by
  rcases Nat.lt_or_ge i ars.length with hi | hi
  · rw [List.getElem?_append_left hi] at h
    exact .inr ⟨hi, h⟩
  · rw [List.getElem?_append_right hi] at h
    by_cases e : i = ars.length
    · subst e
      simp at h
      exact .inl ⟨rfl, h.symm⟩
    · rw [List.getElem?_eq_none (by simp; omega)] at h
      cases h
/-- What was new, laid among the lists, is an arena. -/
theorem MA.arena {A2 : Arn} (h : MA w0 w' pR (nb ++ lb) ars) (hr : Rest nb A2) (hl : ∀ q ∈ nb, w0.heap.size ≤ q.1) (hd : ∀ p ∈ nb, ∀ q ∈ lb, q.1 ≠ p.1) : MA w0 w' pR lb (ars ++ [(A2, nb)]) := by
  obtain ⟨h1, h2, h3, h4, h5, h6⟩ := h
  refine ⟨h1.drop fun q hq => ?_, h2, fun i B hi => ?_, fun q hq => ?_, fun i B hi p hp q hq => ?_, fun i k B C hi hk hne p hp q hq => ?_⟩
  · simp only [List.mem_append, List.mem_cons, flatA_snoc] at hq ⊢
    rcases hq with hq | hq | hq | hq
    · exact .inl hq
    · exact .inr (.inl (.inr hq))
    · exact .inr (.inr hq)
    · exact .inr (.inl (.inl hq))
  · rcases getElem?_snoc hi with ⟨_, rfl⟩ | ⟨_, hi⟩
    · exact ⟨hr, hl⟩
    · exact h3 i B hi
  · simp only [List.mem_append, flatA_snoc] at hq
    refine h4 q ?_
    simp only [List.mem_append]
    rcases hq with hq | hq | hq
    · exact .inl (.inr hq)
    · exact .inr hq
    · exact .inl (.inl hq)
  · rcases getElem?_snoc hi with ⟨_, rfl⟩ | ⟨_, hi⟩
    · exact hd p hp q hq
    · exact h5 i B hi p hp q (List.mem_append_right _ hq)
  · rcases getElem?_snoc hi with ⟨e1, rfl⟩ | ⟨_, hi⟩ <;> rcases getElem?_snoc hk with ⟨e2, rfl⟩ | ⟨_, hk⟩
    · omega
    · exact (h5 k C hk q hq p (List.mem_append_left _ hp)).symm
    · exact h5 i B hi p hp q (List.mem_append_left _ hq)
    · exact h6 i k B C hi hk hne p hp q hq
end
/-- The row is grown. -/
theorem MA.grow {w0 w w' : World} {pR p' : Nat × Obj} {lb : List (Nat × Obj)} {ars : List AB2} (h : MA w0 w pR lb ars) (hg : w.grownBy w' (some pR.1)) (hp : w'.heap[p'.1]? = some p'.2) (he : p'.1 = pR.1 ∨ p'.1 = w.heap.size) : MA w0 w' p' lb ars := by
  obtain ⟨h1, h2, h3, h4, h5, h6⟩ := h
  obtain ⟨k1, k2, k3⟩ := PS.grow h1 h4 h2 hg hp he
  exact ⟨k1, k3, h3, k2, h5, h6⟩
theorem MA.below {w0 w w' : World} {pR : Nat × Obj} {lb : List (Nat × Obj)} {ars : List AB2} (h : MA w0 w pR lb ars) (hb : Below w.heap.size w w') : MA w0 w' pR lb ars := ⟨h.1.below hb, h.2⟩
/-- New blocks are kept, too. -/
theorem PS.keepNews {w0 wa w : World} {pv : Value} {o : Option Nat} {room : Nat} {zs : List Cel} {bs es : List (Nat × Obj)} (h : PS w0 wa pv o room zs (.slice none 0 0) [] bs) (hb : Below wa.heap.size wa w) (he : ∀ q ∈ es, w.heap[q.1]? = some q.2 ∧ wa.heap.size ≤ q.1) : PS w0 w pv o room zs (.slice none 0 0) [] (es ++ bs) := by
  have h2 := h.below hb
  refine ⟨h2.1, h2.2.1, fun q hq => ?_⟩
  rcases List.mem_append.1 hq with hq | hq
  · exact ⟨(he q hq).1, fun k => by have := h.1.1.lt _ k; have := (he q hq).2; omega⟩
  · exact h2.2.2 q hq
theorem move_blocks {X1 w2 w3 : World} {o2 : Option Nat} {zs2 : List Cel} {room2 : Nat} (hb : Below X1.heap.size X1 w2) (hA : ArV w3 (.pointer (some ⟨X1.heap.size, 0, none⟩)) o2 room2 zs2) (hm : Mv none o2 w2) (hf : Fr (VF (.pointer (some ⟨X1.heap.size, 0, none⟩)) none) w2 w3) :
    Below X1.heap.size X1 w3 ∧ ∃ es, Rest es ⟨.pointer (some ⟨X1.heap.size, 0, none⟩), o2, room2, zs2⟩ ∧ ∀ q ∈ es, w3.heap[q.1]? = some q.2 ∧ X1.heap.size ≤ q.1 := by
  refine ⟨hb.trans (hf.below (fun g hg => ?_) hb.size), ?_⟩
  · rcases hg with hg | hg
    · injection hg with hg; injection hg with hg; injection hg with hg; omega
    · cases hg
  · obtain ⟨es, h1, h2⟩ := hA.rest
    refine ⟨es, h2, fun q hq => ⟨h1 q hq, ?_⟩⟩
    rcases (h2.1 q.1).2 ⟨q, hq, rfl⟩ with k | k
    · injection k with k; injection k with k; injection k with k; omega
    · rcases hm with rfl | ⟨g, e, hg⟩
      · cases k
      · simp only at k
        rw [e] at k; injection k with k; have := hb.size; omega
end Go.Proofs.Ytbgepeokadmemaa.F
namespace Go.Proofs.Ytbgepeokadmemaa.Q
open Go.ChangeShapes Go.WideShapes Go.ChangeAt Go.RowKit Base F
/-- A sequence, its arena, its numbers. -/
structure Qn where
  m : Option Addr
  r : Int
  a : Option Addr
  p : Option Addr
  n : Nat
  c : Nat
def Qn.zero : Qn := ⟨none, 0, none, none, 0, 0⟩
def Qn.cells (x : Qn) : List Value := [.pointer x.m, .int .i64 x.r, .pointer x.a, .slice x.p x.n x.c]
def boxQ (x : Qn) : Obj := .cells #[.pointer x.m, .int .i64 x.r, .pointer x.a, .slice x.p x.n x.c] 31
theorem cellsQ {w : World} {g : Nat} {x : Qn} (h : w.heap[g]? = some (boxQ x)) : g < w.heap.size ∧ w.cell? ⟨g, 0, none⟩ = some (.pointer x.m) ∧ w.cell? ⟨g, 1, none⟩ = some (.int .i64 x.r) ∧ w.cell? ⟨g, 2, none⟩ = some (.pointer x.a) ∧ w.cell? ⟨g, 3, none⟩ = some (.slice x.p x.n x.c) := by
  refine ⟨heap_lt h, ?_⟩
  unfold boxQ at h
  simp [World.cell?, h]
def boxD7 (a b c d : Int) : Obj := .cells #[.int .i64 a, .int .i64 b, .int .i64 c, .int .i64 d] 34
theorem cellsD7 {w : World} {g : Nat} {a b c d : Int} (h : w.heap[g]? = some (boxD7 a b c d)) : g < w.heap.size ∧ w.cell? ⟨g, 0, none⟩ = some (.int .i64 a) ∧ w.cell? ⟨g, 1, none⟩ = some (.int .i64 b) ∧ w.cell? ⟨g, 2, none⟩ = some (.int .i64 c) ∧ w.cell? ⟨g, 3, none⟩ = some (.int .i64 d) := by
  refine ⟨heap_lt h, ?_⟩
  unfold boxD7 at h
  simp [World.cell?, h]
set_option maxRecDepth 100000 in
theorem wpList_store_one {ops : Array Oper} {rest : List Oper} {o : Oper} {a : Act} {w : World} {Q : Exit → Act → World → Prop} (hgd : o.guard = none) (x y : Operand) (ho : o.op = .store 31 x y)
    (g : Nat) (z z0 : Qn) (hx : a.eval x = .pointer (some ⟨g, 0, none⟩)) (hy : a.eval y = .agg #[.pointer z.m, .int .i64 z.r, .pointer z.a, .slice z.p z.n z.c]) (hg : w.heap[g]? = some (boxQ z0))
    (h : ∀ w', Stored w g (boxQ z) w' → wpList Try.prog ops Q rest (a.put o.dst undef) w') : wpList Try.prog ops Q (o :: rest) a w :=
  wpList_store_row hgd _ x y ho g _ hx hy 31 _ hg (by kernel_rfl) rfl (by simp [Value.oneCell']) (h _ (stored_setRow _ _ _ _ _ hg))
set_option maxRecDepth 100000 in
theorem wp_store_one {o : Oper} {a : Act} {w : World} {K : Act → World → Prop} {Q : Exit → Act → World → Prop} (x y : Operand) (ho : o.op = .store 31 x y)
    (g : Nat) (z z0 : Qn) (hx : a.eval x = .pointer (some ⟨g, 0, none⟩)) (hy : a.eval y = .agg #[.pointer z.m, .int .i64 z.r, .pointer z.a, .slice z.p z.n z.c]) (hg : w.heap[g]? = some (boxQ z0))
    (h : ∀ w', Stored w g (boxQ z) w' → K (a.put o.dst undef) w') : o.wp Try.prog a w K Q :=
  wp_store_row _ x y ho g _ hx hy 31 _ hg (by kernel_rfl) rfl (by simp [Value.oneCell']) (h _ (stored_setRow _ _ _ _ _ hg))
set_option maxRecDepth 100000 in
theorem one_info : (Try.prog.info? 31).map (fun i => (i.zero, i.size, i.bytes)) = some (some (.agg #[.pointer none, .int .i64 0, .pointer none, .slice none 0 0]), 4, 48) := by kernel_rfl
/-- One more is put behind a slice of such ones. -/
theorem append_one {ops : Array Oper} {rest : List Oper} {oo : Oper} {a : Act} {Q : Exit → Act → World → Prop} (hgd : oo.guard = none) (s x : Operand) (ho : oo.op = .call { callee := .builtin .append, args := #[s, x], argTypes := #[32, 32] })
    {w : World} {v : Value} {p : Nat × Obj} {n : Nat} {xs : List Value} {g' c : Nat} {z : Qn} (h : RowB 31 4 p v n xs) (hp : w.heap[p.1]? = some p.2) (hs : a.eval s = v) (hx : a.eval x = .slice (some ⟨g', 0, none⟩) 1 c) (hg : w.heap[g']? = some (boxQ z)) (hl : n ≤ 100000)
    (hK : ∀ c' w' g'' ob', RowB 31 4 (g'', ob') (.slice (some ⟨g'', 0, none⟩) (n + 1) c') (n + 1) (xs ++ z.cells) → w'.heap[g'']? = some ob' → w.grownBy w' (some p.1) → (g'' = p.1 ∨ g'' = w.heap.size) → wpList Try.prog ops Q rest (a.put oo.dst (.slice (some ⟨g'', 0, none⟩) (n + 1) c')) w') :
    wpList Try.prog ops Q (oo :: rest) a w := by
  obtain ⟨i0, hi, hz0, hz1, hz2⟩ := info_parts one_info
  exact append_row hgd s x (i0 := i0) ho Try.underlying32 hi hz0 hz1 hz2 rfl (by omega) (by omega) (ys := z.cells) h hp hs hx hg rfl (by simp [Value.oneCell', Qn.cells]) hl fun v' w' p' hr hp hg he => by
    obtain ⟨g'', c', e, hv, _⟩ := hr.open_
    obtain ⟨g3, ob'⟩ := p'
    simp only at e
    subst e
    subst hv
    exact hK c' w' g3 ob' hr hp hg he
end Go.Proofs.Ytbgepeokadmemaa.Q
