/-
  Lists of numbers that rise, each once: the document's Put, told without any program. Not a statement of the seat.
-/
import Derived.WalkKit
namespace Go.Proofs.Ytpgfkggfgkafjaa.Rf
/-! numbers in order, each once -/
abbrev Rises (l : List Int) : Prop := l.Pairwise (· < ·)
theorem rises_ext : ∀ {l m : List Int}, Rises l → Rises m → (∀ x, x ∈ l ↔ x ∈ m) → l = m
  | [], [], _, _, _ => rfl
  | [], y :: m, _, _, h => by have := (h y).2 List.mem_cons_self; cases this
  | x :: l, [], _, _, h => by have := (h x).1 List.mem_cons_self; cases this
  | x :: l, y :: m, hl, hm, h => by
    obtain ⟨hl1, hl2⟩ := List.pairwise_cons.1 hl
    obtain ⟨hm1, hm2⟩ := List.pairwise_cons.1 hm
    have hxy : x = y := by
      rcases List.mem_cons.1 ((h x).1 List.mem_cons_self) with e | e
      · exact e
      · rcases List.mem_cons.1 ((h y).2 List.mem_cons_self) with e' | e'
        · exact e'.symm
        · have := hl1 y e'
          have := hm1 x e
          omega
    subst hxy
    rw [rises_ext hl2 hm2 fun z => ?_]
    constructor
    · intro hz
      rcases List.mem_cons.1 ((h z).1 (List.mem_cons_of_mem _ hz)) with e | e
      · have := hl1 z hz; omega
      · exact e
    · intro hz
      rcases List.mem_cons.1 ((h z).2 (List.mem_cons_of_mem _ hz)) with e | e
      · have := hm1 z hz; omega
      · exact e
/-- A list with one more, put ahead of the first that is not less. -/
def putF (n : Int) : List Int → List Int
  | [] => [n]
  | x :: l => if n ≤ x then n :: (x :: l).filter (fun y => y != n) else x :: putF n l
theorem mem_putF (n y : Int) : ∀ l, y ∈ putF n l ↔ y = n ∨ y ∈ l
  | [] => by simp [putF]
  | x :: l => by
    unfold putF
    split
    · simp only [List.mem_cons, List.mem_filter, bne_iff_ne, ne_eq]
      constructor
      · rintro (h | ⟨h, _⟩)
        · exact .inl h
        · exact .inr h
      · rintro (h | h)
        · exact .inl h
        · by_cases e : y = n
          · exact .inl e
          · exact .inr ⟨h, e⟩
    · rw [List.mem_cons, mem_putF n y l, List.mem_cons]
      constructor
      · rintro (h | h | h)
        · exact .inr (.inl h)
        · exact .inl h
        · exact .inr (.inr h)
      · rintro (h | h | h)
        · exact .inr (.inl h)
        · exact .inl h
        · exact .inr (.inr h)
theorem rises_putF (n : Int) : ∀ {l : List Int}, Rises l → Rises (putF n l)
  | [], _ => by simp [putF]
  | x :: l, h => by
    obtain ⟨h1, h2⟩ := List.pairwise_cons.1 h
    unfold putF
    split
    · rename_i hn
      refine List.pairwise_cons.2 ⟨fun y hy => ?_, h.filter _⟩
      rw [List.mem_filter] at hy
      obtain ⟨hy1, hy2⟩ := hy
      simp only [bne_iff_ne, ne_eq] at hy2
      rcases List.mem_cons.1 hy1 with e | e
      · omega
      · have := h1 y e; omega
    · rename_i hn
      refine List.pairwise_cons.2 ⟨fun y hy => ?_, rises_putF n h2⟩
      rcases (mem_putF n y l).1 hy with e | e
      · omega
      · exact h1 y e
theorem putF_len (n : Int) : ∀ l, (putF n l).length ≤ l.length + 1
  | [] => by simp [putF]
  | x :: l => by
    unfold putF
    split
    · have := List.length_filter_le (fun y => y != n) (x :: l)
      simp only [List.length_cons] at this ⊢
      omega
    · have := putF_len n l
      simp only [List.length_cons]
      omega
/-- What is still to come: n was put, or not. -/
def goF (n : Int) (b : Bool) (l : List Int) : List Int := if b then l.filter (fun y => y != n) else putF n l
theorem goF_lt {n x : Int} {l : List Int} (h : x < n) : goF n false (x :: l) = x :: goF n false l := by
  show putF n (x :: l) = x :: putF n l
  rw [putF, if_neg (by omega)]
theorem goF_eq (n : Int) (l : List Int) : goF n false (n :: l) = n :: goF n true l := by
  show putF n (n :: l) = n :: l.filter _
  rw [putF, if_pos (Int.le_refl _)]
  simp
theorem goF_gt {n x : Int} {l : List Int} (h : n < x) : goF n false (x :: l) = n :: x :: goF n true l := by
  show putF n (x :: l) = n :: x :: l.filter _
  rw [putF, if_pos (by omega), List.filter_cons_of_pos (by simp; omega)]
theorem goF_skip (n : Int) (l : List Int) : goF n true (n :: l) = goF n true l := by simp [goF]
theorem goF_keep {n x : Int} {l : List Int} (h : x ≠ n) : goF n true (x :: l) = x :: goF n true l := by simp [goF, h]
/-- The keys, in order, each once. -/
def keysL (ks : List Int) : List Int := ks.foldl (fun acc k => putF k acc) []
theorem keysL_snoc (ks : List Int) (k : Int) : keysL (ks ++ [k]) = putF k (keysL ks) := by unfold keysL; rw [List.foldl_append]; rfl
theorem fold_rises : ∀ (ks acc : List Int), Rises acc → Rises (ks.foldl (fun acc k => putF k acc) acc) ∧ ∀ y, y ∈ ks.foldl (fun acc k => putF k acc) acc ↔ y ∈ acc ∨ y ∈ ks
  | [], acc, h => ⟨h, by simp⟩
  | k :: ks, acc, h => by
    obtain ⟨h1, h2⟩ := fold_rises ks (putF k acc) (rises_putF k h)
    refine ⟨h1, fun y => ?_⟩
    rw [List.foldl_cons, h2, mem_putF, List.mem_cons]
    constructor
    · rintro ((h | h) | h)
      · exact .inr (.inl h)
      · exact .inl h
      · exact .inr (.inr h)
    · rintro (h | h | h)
      · exact .inl (.inr h)
      · exact .inl (.inl h)
      · exact .inr h
theorem keysL_rises (ks : List Int) : Rises (keysL ks) := (fold_rises ks [] (by simp)).1
theorem mem_keysL {ks : List Int} {y : Int} : y ∈ keysL ks ↔ y ∈ ks := by
  have := (fold_rises ks [] (by simp)).2 y
  simpa [keysL] using this
theorem keysL_len (ks : List Int) : (keysL ks).length ≤ ks.length := by
  have : ∀ (ks acc : List Int), (ks.foldl (fun acc k => putF k acc) acc).length ≤ acc.length + ks.length := by
    intro ks
    induction ks with
    | nil => intro acc; simp
    | cons k ks ih =>
      intro acc
      have h1 := ih (putF k acc)
      have h2 := putF_len k acc
      simp only [List.foldl_cons, List.length_cons]
      omega
  have := this ks []
  simpa [keysL] using this
theorem take_snoc {α : Type} (l : List α) (d : α) (k : Nat) (h : k < l.length) : l.take (k + 1) = l.take k ++ [l.getD k d] := by
  rw [List.take_succ_eq_append_getElem h, List.getD_eq_getElem?_getD, List.getElem?_eq_getElem h]; rfl
theorem drop_cons {α : Type} (l : List α) (d : α) (k : Nat) (h : k < l.length) : l.drop k = l.getD k d :: l.drop (k + 1) := by
  rw [List.drop_eq_getElem_cons h, List.getD_eq_getElem?_getD, List.getElem?_eq_getElem h]; rfl
end Go.Proofs.Ytpgfkggfgkafjaa.Rf
