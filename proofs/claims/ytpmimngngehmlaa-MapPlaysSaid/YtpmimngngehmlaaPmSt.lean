/-
  Maps in an arena of the call's own: what stays on the way, and what a walk over maps needs. Not a statement of the seat.
-/
import Derived.Test.YtpmimngngehmlaaArPS
import Derived.Test.YtpmimngngehmlaaPmLink
import Derived.Deep.Cut
import Derived.Deep.CutRange
import Derived.Deep.DeepCutAuto
import Derived.Deep.RegionHeld3
namespace Go.Proofs.Ytpmimngngehmlaa.F
open Go.ChangeShapes Go.WideShapes Go.ChangeAt Go.RowKit Base
theorem MP.step {pv : Value} {o : Option Nat} {room : Nat} {zs : List Cel} {P : List Cel → Int → Prop} {Z : Prop} {w : World} {e : Ending} {w' : World} (h : MP pv o room zs P Z w e w') : ∃ root' why zs', ArStep pv o room zs' (.tuple #[.agg #[pv, .int .i64 root'], .int .i64 why]) w e w' ∧ Hid (MRes P Z zs zs' root' why) := by
  obtain ⟨root', why, zs', o', he, h1, h2, h3, h4⟩ := h
  exact ⟨root', why, zs', ⟨he, o', h1, h2, h3⟩, Lib.hid h4⟩
theorem MP.nil_put {P : List Cel → Int → Prop} {Z : Prop} {w : World} {e : Ending} {w' : World} (h : MP (.pointer none) none 0 [] P Z w e w') (hP : ∀ root', ¬ P [] root') : e = .returned (.tuple #[.agg #[.pointer none, .int .i64 0], .int .i64 2]) ∧ Below w.heap.size w w' := by
  obtain ⟨root', why, zs', o', he, h1, h2, h3, h4⟩ := h
  have hz : zs' = [] := by
    rcases h1 with ⟨_, _, _, h⟩ | ⟨b, h, _⟩
    · exact h
    · cases h
  subst hz
  rcases h4 with ⟨_, h⟩ | ⟨rfl, _, rfl, _⟩
  · exact absurd h (hP _)
  · exact ⟨he, h3.below (fun g hg => by rcases hg with k | k <;> cases k) (Nat.le_refl _)⟩
theorem wp_alloc_map {o : Oper} {a : Act} {w : World} {K : Act → World → Prop} {Q : Exit → Act → World → Prop} (ho : o.op = .alloc 27)
    (h : ∀ g w', g = w.heap.size → w' = w.alloc (boxM (.pointer none) 0) → K (a.put o.dst (.pointer (some ⟨g, 0, none⟩))) w') : o.wp Try.prog a w K Q := by
  obtain ⟨dst, op, type, pos, after, guard⟩ := o
  simp only at ho
  subst ho
  go_simp
  exact h _ _ rfl rfl
/-- A box of the call's own is stored into. -/
theorem PS.store {w0 w w' : World} {pv : Value} {o : Option Nat} {room : Nat} {zs : List Cel} {bs : List (Nat × Obj)} {g : Nat} {ob ob' : Obj} (h : PS w0 w pv o room zs (.slice none 0 0) [] ((g, ob) :: bs)) (hn : ∀ p ∈ bs, p.1 ≠ g) (h0 : w0.heap.size ≤ g) (hs : Stored w g ob' w') : PS w0 w' pv o room zs (.slice none 0 0) [] ((g, ob') :: bs) := by
  obtain ⟨⟨k1, k2, k3⟩, _, k5⟩ := h
  have hg := k5 (g, ob) (List.mem_cons_self ..)
  have hf : Fr (fun k => k = g) w w' := ⟨hs.1, hs.2.1, hs.2.2.1, by rw [hs.2.2.2.1]; exact Nat.le_refl _, fun k _ hn => hs.2.2.2.2.2 k hn⟩
  refine ⟨⟨k1.fr hf (fun k hv e => hg.2 (e ▸ hv)), hs.below k2 h0, k3⟩, QS.nil _ _ _, fun p hp => ?_⟩
  rcases List.mem_cons.1 hp with rfl | hp
  · exact ⟨hs.2.2.2.2.1, hg.2⟩
  · have := k5 p (List.mem_cons_of_mem _ hp)
    exact ⟨(hs.2.2.2.2.2 p.1 (hn p hp)).trans this.1, this.2⟩
theorem ins_size1 (key val : Int) (t : Tre) : t.size ≤ (Tre.ins key val t).size ∧ (Tre.ins key val t).size ≤ t.size + 1 ∧ 1 ≤ (Tre.ins key val t).size := by
  induction t with
  | nil => simp [Tre.ins, Tre.size]
  | node l k v r h1 h2 =>
    have hl : ∀ (l : Tre) (k v : Int) (r : Tre), (Tre.lev l k v r).size = l.size + 1 + r.size := fun l k v r => by
      rw [← Tre.list_len, Tre.lev_list, List.length_append, List.length_cons, Tre.list_len, Tre.list_len]; omega
    simp only [Tre.ins]
    split
    · rw [hl]; simp only [Tre.size]; omega
    · split
      · rw [hl]; simp only [Tre.size]; omega
      · rw [hl]; simp only [Tre.size]; omega
/-- How high a tree is at most. -/
theorem high_le {t : Tre} (hb : t.bal) {n m : Nat} (hs : t.size ≤ n) (hm : (n + 1) * (n + 1) < 2 ^ (m + 1)) : t.high ≤ m := by
  have h := bal_size t hb
  have h2 : (t.size + 1) * (t.size + 1) ≤ (n + 1) * (n + 1) := Nat.mul_le_mul (by omega) (by omega)
  have h3 : 2 ^ t.high < 2 ^ (m + 1) := Nat.lt_of_le_of_lt (Nat.le_trans h h2) hm
  have := (Nat.pow_lt_pow_iff_right (by decide : 1 < 2)).1 h3
  omega
theorem SortL.lt {l : List Pai} (h : SortL l) {i j : Nat} (hij : i < j) (hj : j < l.length) : (l.getD i Pai.zero).k < (l.getD j Pai.zero).k := by
  rw [List.getD_eq_getElem?_getD, List.getD_eq_getElem?_getD, List.getElem?_eq_getElem (by omega), List.getElem?_eq_getElem hj]
  exact (List.pairwise_iff_getElem.1 h) i j (by omega) hj hij
theorem SortL.rank {l : List Pai} (h : SortL l) {j : Nat} (hj : j < l.length) : rankL (l.getD j Pai.zero).k l = j := by
  have e : l = l.take j ++ l.drop j := (List.take_append_drop j l).symm
  have h1 : ∀ p ∈ l.take j, p.k < (l.getD j Pai.zero).k := fun p hp => by
    obtain ⟨i, hi, rfl⟩ := List.getElem_of_mem hp
    have hi' : i < j ∧ i < l.length := by rw [List.length_take] at hi; omega
    have := h.lt hi'.1 hj
    rw [List.getD_eq_getElem?_getD, List.getElem?_eq_getElem hi'.2] at this
    rw [List.getElem_take]
    exact this
  have h2 : ∀ p ∈ l.drop j, (l.getD j Pai.zero).k ≤ p.k := fun p hp => by
    obtain ⟨i, hi, rfl⟩ := List.getElem_of_mem hp
    have hi' : i < l.length - j := by simpa using hi
    rw [List.getElem_drop]
    by_cases h0 : i = 0
    · subst h0
      rw [List.getD_eq_getElem?_getD, List.getElem?_eq_getElem hj]; exact Int.le_refl _
    · have := h.lt (show j < j + i by omega) (by omega)
      rw [List.getD_eq_getElem?_getD (l := l) (i := j + i), List.getElem?_eq_getElem (by omega)] at this
      exact Int.le_of_lt this
  have h3 := rankL_all h1
  have h4 := rankL_none h2
  generalize (l.getD j Pai.zero).k = key at h3 h4 ⊢
  have : rankL key l = rankL key (l.take j) + rankL key (l.drop j) := by
    unfold rankL
    rw [← List.countP_append, List.take_append_drop]
  rw [this, h3, h4, List.length_take]; omega
end Go.Proofs.Ytpmimngngehmlaa.F
