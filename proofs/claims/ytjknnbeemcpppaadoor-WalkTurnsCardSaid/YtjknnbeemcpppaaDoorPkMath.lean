/-
  Plain facts on lists of edges: one more put in order, all put in order, what is left of a sorted row when each stands once. Not a statement of the seat.
-/
import Derived.Test.YtjknnbeemcpppaaDoorPkSorted
import Derived.Lib.SlicesCompact
namespace Go.Proofs.YtjknnbeemcpppaaDoor.Pk
open Go.ChangeShapes Go.WideShapes Go.ChangeAt Go.RowKit Base Go.Shelf Go.Lib Go.Sort
theorem lt_irr (x : E) : ltE x x = false := by rw [ltE_no]; omega
theorem lt_tr {x y z : E} (h1 : ltE x y = true) (h2 : ltE y z = true) : ltE x z = true := by rw [ltE_iff] at *; omega
theorem lt_as {x y : E} (h : ltE x y = true) : ltE y x = false := by rw [ltE_iff] at h; rw [ltE_no]; omega
theorem lt_eq {x y : E} (h1 : ltE x y = false) (h2 : ltE y x = false) : x = y := totE x y (by rw [ltOf_cfE]; exact h1) (by rw [ltOf_cfE]; exact h2)
theorem le_tr {x y z : E} (h1 : ltE y x = false) (h2 : ltE z y = false) : ltE z x = false := by rw [ltE_no] at *; omega
/-- Each stands ahead of all behind it. -/
abbrev Rises (l : List E) : Prop := l.Pairwise fun x y => ltE x y = true
theorem rises_ext : ∀ {l m : List E}, Rises l → Rises m → (∀ x, x ∈ l ↔ x ∈ m) → l = m
  | [], [], _, _, _ => rfl
  | [], y :: m, _, _, h => by have := (h y).2 List.mem_cons_self; cases this
  | x :: l, [], _, _, h => by have := (h x).1 List.mem_cons_self; cases this
  | x :: l, y :: m, hl, hm, h => by
    obtain ⟨hl1, hl2⟩ := List.pairwise_cons.1 hl
    obtain ⟨hm1, hm2⟩ := List.pairwise_cons.1 hm
    have hxy : x = y := by
      rcases List.mem_cons.1 ((h x).1 List.mem_cons_self) with e | e
      · exact e
      · rcases List.mem_cons.1 ((h y).2 List.mem_cons_self) with e' | e'
        · exact e'.symm
        · have := lt_as (hl1 y e')
          rw [hm1 x e] at this; cases this
    subst hxy
    rw [rises_ext hl2 hm2 fun z => ?_]
    constructor
    · intro hz
      rcases List.mem_cons.1 ((h z).1 (List.mem_cons_of_mem _ hz)) with e | e
      · have := hl1 z hz; rw [e, lt_irr] at this; cases this
      · exact e
    · intro hz
      rcases List.mem_cons.1 ((h z).2 (List.mem_cons_of_mem _ hz)) with e | e
      · have := hm1 z hz; rw [e, lt_irr] at this; cases this
      · exact e
/-- A list with one more, put ahead of the first that is not ahead of it. -/
def put1 (e : E) : List E → List E
  | [] => [e]
  | x :: l => if ltE x e = true then x :: put1 e l else if x = e then e :: l.filter (fun y => !decide (y = e)) else e :: x :: l.filter (fun y => !decide (y = e))
theorem mem_put1 (e y : E) : ∀ l, y ∈ put1 e l ↔ y = e ∨ y ∈ l
  | [] => by simp [put1]
  | x :: l => by
    have ih := mem_put1 e y l
    unfold put1
    by_cases h : ltE x e = true
    · rw [if_pos h, List.mem_cons, ih, List.mem_cons]
      constructor
      · rintro (h | h | h)
        · exact .inr (.inl h)
        · exact .inl h
        · exact .inr (.inr h)
      · rintro (h | h | h)
        · exact .inr (.inl h)
        · exact .inl h
        · exact .inr (.inr h)
    · rw [if_neg h]
      by_cases h2 : x = e
      · rw [if_pos h2]
        subst h2
        by_cases hy : y = x <;> simp [hy]
      · rw [if_neg h2]
        by_cases hy : y = e <;> simp [hy]
theorem rises_put1 (e : E) : ∀ {l : List E}, Rises l → Rises (put1 e l)
  | [], _ => by simp [put1]
  | x :: l, h => by
    obtain ⟨h1, h2⟩ := List.pairwise_cons.1 h
    have ih := rises_put1 e h2
    unfold put1
    by_cases hx : ltE x e = true
    · rw [if_pos hx]
      refine List.pairwise_cons.2 ⟨fun y hy => ?_, ih⟩
      rcases (mem_put1 e y l).1 hy with e1 | e1
      · rw [e1]; exact hx
      · exact h1 y e1
    · rw [if_neg hx]
      by_cases he : x = e
      · rw [if_pos he]
        subst he
        exact List.pairwise_cons.2 ⟨fun y hy => h1 y (List.mem_filter.1 hy).1, h2.filter _⟩
      · rw [if_neg he]
        have hex : ltE e x = true := by
          cases hh : ltE e x
          · exact absurd (lt_eq (by simpa using hx) hh) he
          · rfl
        refine List.pairwise_cons.2 ⟨fun y hy => ?_, List.pairwise_cons.2 ⟨fun y hy => h1 y (List.mem_filter.1 hy).1, h2.filter _⟩⟩
        rcases List.mem_cons.1 hy with e1 | e1
        · rw [e1]; exact hex
        · exact lt_tr hex (h1 y (List.mem_filter.1 e1).1)
/-- One round of the document's Put. -/
def stepE (e : E) (s : Bool × List E) (x : E) : Bool × List E :=
  if s.1 = false ∧ ltE x e = false then (true, if x = e then s.2 ++ [e] else s.2 ++ [e] ++ [x]) else (s.1, if x = e then s.2 else s.2 ++ [x])
theorem step_true (e : E) : ∀ (l out : List E), l.foldl (stepE e) (true, out) = (true, out ++ l.filter (fun y => !decide (y = e)))
  | [], out => by simp
  | x :: l, out => by
    rw [List.foldl_cons]
    have h : stepE e (true, out) x = (true, if x = e then out else out ++ [x]) := by simp [stepE]
    rw [h, step_true e l]
    by_cases hx : x = e <;> simp [hx]
theorem step_false (e : E) : ∀ (l out : List E), (l.foldl (stepE e) (false, out)).2 ++ (if (l.foldl (stepE e) (false, out)).1 = true then [] else [e]) = out ++ put1 e l
  | [], out => by simp [put1]
  | x :: l, out => by
    rw [List.foldl_cons]
    unfold put1
    by_cases hx : ltE x e = true
    · have hne : ¬ x = e := fun h => by rw [h, lt_irr] at hx; cases hx
      have h : stepE e (false, out) x = (false, out ++ [x]) := by simp [stepE, hx, hne]
      rw [h, if_pos hx, step_false e l]
      simp
    · have hx' : ltE x e = false := by simpa using hx
      rw [if_neg hx]
      by_cases he : x = e
      · have h : stepE e (false, out) x = (true, out ++ [e]) := by simp [stepE, he, lt_irr]
        rw [h, if_pos he, step_true]
        simp
      · have h : stepE e (false, out) x = (true, out ++ [e] ++ [x]) := by simp [stepE, hx', he]
        rw [h, if_neg he, step_true]
        simp
theorem stepE_len (e : E) : ∀ (l : List E) (s : Bool × List E), (l.foldl (stepE e) s).2.length ≤ s.2.length + 2 * l.length
  | [], s => by simp
  | x :: l, s => by
    rw [List.foldl_cons]
    have h1 := stepE_len e l (stepE e s x)
    have h2 : (stepE e s x).2.length ≤ s.2.length + 2 := by
      unfold stepE
      split <;> (dsimp only; split <;> simp)
    simp only [List.length_cons]
    omega
theorem put1_len (e : E) : ∀ l : List E, (put1 e l).length ≤ l.length + 1
  | [] => by simp [put1]
  | x :: l => by
    have ih := put1_len e l
    have hf := List.length_filter_le (fun y => !decide (y = e)) l
    unfold put1
    split
    · simp only [List.length_cons]; omega
    · split <;> simp only [List.length_cons] <;> omega
/-- All put in order, one by one. -/
def sortL (l : List E) : List E := l.foldl (fun acc e => put1 e acc) []
theorem sortL_snoc {l : List E} {k : Nat} (hk : k < l.length) : sortL (l.take (k + 1)) = put1 (l.getD k (0, 0, 0, 0)) (sortL (l.take k)) := by
  unfold sortL
  rw [List.take_succ_eq_append_getElem hk, List.foldl_append]
  simp [hk]
theorem fold_put1 : ∀ (l acc : List E), Rises acc → Rises (l.foldl (fun acc e => put1 e acc) acc) ∧ ∀ y, y ∈ l.foldl (fun acc e => put1 e acc) acc ↔ y ∈ acc ∨ y ∈ l
  | [], acc, h => ⟨h, fun y => by simp⟩
  | x :: l, acc, h => by
    rw [List.foldl_cons]
    obtain ⟨h1, h2⟩ := fold_put1 l (put1 x acc) (rises_put1 x h)
    refine ⟨h1, fun y => ?_⟩
    rw [h2, mem_put1, List.mem_cons]
    constructor
    · rintro ((h | h) | h)
      · exact .inr (.inl h)
      · exact .inl h
      · exact .inr (.inr h)
    · rintro (h | h | h)
      · exact .inl (.inr h)
      · exact .inl (.inl h)
      · exact .inr h
theorem sortL_len (l : List E) : (sortL l).length ≤ l.length := by
  have h : ∀ (l acc : List E), (l.foldl (fun acc e => put1 e acc) acc).length ≤ acc.length + l.length := by
    intro l
    induction l with
    | nil => intro acc; simp
    | cons x l ih =>
      intro acc
      rw [List.foldl_cons]
      have h1 := ih (put1 x acc)
      have h2 := put1_len x acc
      simp only [List.length_cons]
      omega
  have := h l []
  simpa [sortL] using this
/-- What is left of a row in order, each once. -/
theorem compact_rises (s : Array E) (hs : ∀ i j, i < j → j < s.size → ltE s[j]! s[i]! = false) : ∀ m, m ≤ s.size → Rises (compactUpTo s m) ∧ ∀ x, x ∈ compactUpTo s m ↔ ∃ j, j < m ∧ s[j]! = x
  | 0, _ => by simp [compactUpTo]
  | m + 1, hm => by
    obtain ⟨h1, h2⟩ := compact_rises s hs m (by omega)
    rw [compactUpTo_succ]
    by_cases hk : keeps s m = true
    · rw [if_pos hk]
      have hk' : m = 0 ∨ s[m]! ≠ s[m - 1]! := by simpa [keeps] using hk
      constructor
      · refine List.pairwise_append.2 ⟨h1, by simp, fun x hx y hy => ?_⟩
        rw [List.mem_singleton] at hy
        subst hy
        obtain ⟨j, hj, e⟩ := (h2 x).1 hx
        rw [← e]
        have hw := hs j m hj (by omega)
        cases hh : ltE s[j]! s[m]!
        · exfalso
          have e1 := lt_eq hh hw
          rcases hk' with h0 | h0
          · omega
          · by_cases hjm : j = m - 1
            · exact h0 (by rw [← hjm]; exact e1.symm)
            · have a1 := hs j (m - 1) (by omega) (by omega)
              have a2 := hs (m - 1) m (by omega) (by omega)
              rw [e1] at a1
              exact h0 (lt_eq a2 a1)
        · rfl
      · intro x
        rw [List.mem_append, h2, List.mem_singleton]
        constructor
        · rintro (⟨j, hj, e⟩ | e)
          · exact ⟨j, by omega, e⟩
          · exact ⟨m, by omega, e.symm⟩
        · rintro ⟨j, hj, e⟩
          by_cases hjm : j = m
          · exact .inr (by rw [← e, hjm])
          · exact .inl ⟨j, by omega, e⟩
    · rw [if_neg hk, List.append_nil]
      have hk' : ¬ m = 0 ∧ s[m]! = s[m - 1]! := by simpa [keeps] using hk
      refine ⟨h1, fun x => ?_⟩
      rw [h2]
      constructor
      · rintro ⟨j, hj, e⟩
        exact ⟨j, by omega, e⟩
      · rintro ⟨j, hj, e⟩
        by_cases hjm : j = m
        · exact ⟨m - 1, by omega, by rw [← e, hjm]; exact hk'.2.symm⟩
        · exact ⟨j, by omega, e⟩
/-- Two ways to sort: one list. -/
theorem sortedE_eq (d : Array E) : sortedE d = sortL d.toList := by
  have hp := List.mergeSort_perm d.toList (fun x y => !(ltOf cfE) y x)
  have hw : (d.toList.mergeSort fun x y => !(ltOf cfE) y x).Pairwise fun x y => (!(ltOf cfE) y x) = true :=
    List.pairwise_mergeSort (fun a b c h1 h2 => by
      simp only [ltOf_cfE, Bool.not_eq_true'] at *
      exact le_tr h1 h2) (fun a b => by
      simp only [ltOf_cfE]
      cases h : ltE b a
      · rfl
      · rw [lt_as h]; rfl) d.toList
  unfold sortedE
  generalize (d.toList.mergeSort fun x y => !(ltOf cfE) y x) = l at hp hw ⊢
  have hs : ∀ i j, i < j → j < l.toArray.size → ltE l.toArray[j]! l.toArray[i]! = false := fun i j hij hj => by
    have hj' : j < l.length := by simpa using hj
    have hi' : i < l.length := by omega
    have := List.pairwise_iff_getElem.1 hw i j hi' hj' hij
    rw [ltOf_cfE, Bool.not_eq_true'] at this
    rw [getElem!_pos l.toArray j (by simpa using hj'), getElem!_pos l.toArray i (by simpa using hi')]
    simpa using this
  obtain ⟨h1, h2⟩ := compact_rises l.toArray hs l.toArray.size (Nat.le_refl _)
  obtain ⟨h3, h4⟩ := fold_put1 d.toList [] (by simp)
  refine rises_ext h1 h3 fun x => ?_
  rw [h2]
  unfold sortL
  rw [h4, ← hp.mem_iff]
  constructor
  · rintro ⟨j, hj, e⟩
    have hj' : j < l.length := by simpa using hj
    rw [getElem!_pos l.toArray j (by simpa using hj')] at e
    exact .inr (by rw [← e]; simp)
  · rintro (h | h)
    · cases h
    · obtain ⟨j, hj, e⟩ := List.mem_iff_getElem.1 h
      exact ⟨j, by simpa using hj, by rw [getElem!_pos l.toArray j (by simpa using hj)]; simpa using e⟩
end Go.Proofs.YtjknnbeemcpppaaDoor.Pk
