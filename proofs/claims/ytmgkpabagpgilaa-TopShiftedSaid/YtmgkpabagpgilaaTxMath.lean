/-
  Plain facts on transactions: what is written, the keys in order, why one is not right, its text. Not a statement of the seat.
-/
import Derived.Test.YtmgkpabagpgilaaOpDef
import Derived.Test.YtmgkpabagpgilaaHead5
import Derived.Lib.SlicesCompact
import Derived.Lib.Join
namespace Go.Proofs.Ytmgkpabagpgilaa.Tx
open Go.Lib Go.Sort Nu F
open Go.Proofs.Ytmgkpabagpgilaa.Op (rightO textO)
/-! numbers in order, each once -/
abbrev Rises (l : List Int) : Prop := l.Pairwise (· < ·)
theorem rises_ext : ∀ {l m : List Int}, Rises l → Rises m → (∀ x, x ∈ l ↔ x ∈ m) → l = m
  | [], [], _, _, _ => rfl
  | [], y :: m, _, _, h => by have := (h y).2 List.mem_cons_self; cases this
  | x :: l, [], _, _, h => by have := (h x).1 List.mem_cons_self; cases this
  | x :: l, y :: m, hl, hm, h => by
    obtain ⟨hl1, hl2⟩ := List.pairwise_cons.1 hl
    obtain ⟨hm1, hm2⟩ := List.pairwise_cons.1 hm
    have hxy : x = y := by
      rcases List.mem_cons.1 ((h x).1 List.mem_cons_self) with e | e
      · exact e
      · rcases List.mem_cons.1 ((h y).2 List.mem_cons_self) with e' | e'
        · exact e'.symm
        · have := hl1 y e'
          have := hm1 x e
          omega
    subst hxy
    rw [rises_ext hl2 hm2 fun z => ?_]
    constructor
    · intro hz
      rcases List.mem_cons.1 ((h z).1 (List.mem_cons_of_mem _ hz)) with e | e
      · have := hl1 z hz; omega
      · exact e
    · intro hz
      rcases List.mem_cons.1 ((h z).2 (List.mem_cons_of_mem _ hz)) with e | e
      · have := hm1 z hz; omega
      · exact e
/-- A list with one more, put ahead of the first that is not less. -/
def putF (n : Int) : List Int → List Int
  | [] => [n]
  | x :: l => if n ≤ x then n :: (x :: l).filter (fun y => y != n) else x :: putF n l
theorem mem_putF (n y : Int) : ∀ l, y ∈ putF n l ↔ y = n ∨ y ∈ l
  | [] => by simp [putF]
  | x :: l => by
    unfold putF
    split
    · simp only [List.mem_cons, List.mem_filter, bne_iff_ne, ne_eq]
      constructor
      · rintro (h | ⟨h, _⟩)
        · exact .inl h
        · exact .inr h
      · rintro (h | h)
        · exact .inl h
        · by_cases e : y = n
          · exact .inl e
          · exact .inr ⟨h, e⟩
    · rw [List.mem_cons, mem_putF n y l, List.mem_cons]
      constructor
      · rintro (h | h | h)
        · exact .inr (.inl h)
        · exact .inl h
        · exact .inr (.inr h)
      · rintro (h | h | h)
        · exact .inr (.inl h)
        · exact .inl h
        · exact .inr (.inr h)
theorem rises_putF (n : Int) : ∀ {l : List Int}, Rises l → Rises (putF n l)
  | [], _ => by simp [putF]
  | x :: l, h => by
    obtain ⟨h1, h2⟩ := List.pairwise_cons.1 h
    unfold putF
    split
    · rename_i hn
      refine List.pairwise_cons.2 ⟨fun y hy => ?_, h.filter _⟩
      rw [List.mem_filter] at hy
      obtain ⟨hy1, hy2⟩ := hy
      simp only [bne_iff_ne, ne_eq] at hy2
      rcases List.mem_cons.1 hy1 with e | e
      · omega
      · have := h1 y e; omega
    · rename_i hn
      refine List.pairwise_cons.2 ⟨fun y hy => ?_, rises_putF n h2⟩
      rcases (mem_putF n y l).1 hy with e | e
      · omega
      · exact h1 y e
theorem putF_len (n : Int) : ∀ l, (putF n l).length ≤ l.length + 1
  | [] => by simp [putF]
  | x :: l => by
    unfold putF
    split
    · have := List.length_filter_le (fun y => y != n) (x :: l)
      simp only [List.length_cons] at this ⊢
      omega
    · have := putF_len n l
      simp only [List.length_cons]
      omega
/-- What is still to come: n was put, or not. -/
def goF (n : Int) (b : Bool) (l : List Int) : List Int := if b then l.filter (fun y => y != n) else putF n l
theorem goF_lt {n x : Int} {l : List Int} (h : x < n) : goF n false (x :: l) = x :: goF n false l := by
  show putF n (x :: l) = x :: putF n l
  rw [putF, if_neg (by omega)]
theorem goF_eq (n : Int) (l : List Int) : goF n false (n :: l) = n :: goF n true l := by
  show putF n (n :: l) = n :: l.filter _
  rw [putF, if_pos (Int.le_refl _)]
  simp
theorem goF_gt {n x : Int} {l : List Int} (h : n < x) : goF n false (x :: l) = n :: x :: goF n true l := by
  show putF n (x :: l) = n :: x :: l.filter _
  rw [putF, if_pos (by omega), List.filter_cons_of_pos (by simp; omega)]
theorem goF_skip (n : Int) (l : List Int) : goF n true (n :: l) = goF n true l := by simp [goF]
theorem goF_keep {n x : Int} {l : List Int} (h : x ≠ n) : goF n true (x :: l) = x :: goF n true l := by simp [goF, h]
/-- The keys, in order, each once. -/
def keysL (ks : List Int) : List Int := ks.foldl (fun acc k => putF k acc) []
theorem keysL_snoc (ks : List Int) (k : Int) : keysL (ks ++ [k]) = putF k (keysL ks) := by unfold keysL; rw [List.foldl_append]; rfl
theorem fold_rises : ∀ (ks acc : List Int), Rises acc → Rises (ks.foldl (fun acc k => putF k acc) acc) ∧ ∀ y, y ∈ ks.foldl (fun acc k => putF k acc) acc ↔ y ∈ acc ∨ y ∈ ks
  | [], acc, h => ⟨h, by simp⟩
  | k :: ks, acc, h => by
    obtain ⟨h1, h2⟩ := fold_rises ks (putF k acc) (rises_putF k h)
    refine ⟨h1, fun y => ?_⟩
    rw [List.foldl_cons, h2, mem_putF, List.mem_cons]
    constructor
    · rintro ((h | h) | h)
      · exact .inr (.inl h)
      · exact .inl h
      · exact .inr (.inr h)
    · rintro (h | h | h)
      · exact .inl (.inr h)
      · exact .inl (.inl h)
      · exact .inr h
theorem keysL_rises (ks : List Int) : Rises (keysL ks) := (fold_rises ks [] (by simp)).1
theorem mem_keysL {ks : List Int} {y : Int} : y ∈ keysL ks ↔ y ∈ ks := by
  have := (fold_rises ks [] (by simp)).2 y
  simpa [keysL] using this
theorem keysL_len (ks : List Int) : (keysL ks).length ≤ ks.length := by
  have : ∀ (ks acc : List Int), (ks.foldl (fun acc k => putF k acc) acc).length ≤ acc.length + ks.length := by
    intro ks
    induction ks with
    | nil => intro acc; simp
    | cons k ks ih =>
      intro acc
      have h1 := ih (putF k acc)
      have h2 := putF_len k acc
      simp only [List.foldl_cons, List.length_cons]
      omega
  have := this ks []
  simpa [keysL] using this
theorem compact_rises (s : Array Int) (hs : ∀ i j, i < j → j < s.size → s[i]! ≤ s[j]!) : ∀ m, m ≤ s.size → Rises (compactUpTo s m) ∧ ∀ x, x ∈ compactUpTo s m ↔ ∃ j, j < m ∧ s[j]! = x
  | 0, _ => by simp [compactUpTo]
  | m + 1, hm => by
    obtain ⟨h1, h2⟩ := compact_rises s hs m (by omega)
    rw [compactUpTo_succ]
    by_cases hk : keeps s m = true
    · rw [if_pos hk]
      have hk' : m = 0 ∨ s[m]! ≠ s[m - 1]! := by simpa [keeps] using hk
      constructor
      · refine List.pairwise_append.2 ⟨h1, by simp, fun x hx y hy => ?_⟩
        rw [List.mem_singleton] at hy
        subst hy
        obtain ⟨j, hj, e⟩ := (h2 x).1 hx
        rw [← e]
        have hw := hs j m hj (by omega)
        rcases hk' with h0 | h0
        · omega
        · by_cases hjm : j = m - 1
          · rw [← hjm] at h0; omega
          · have a1 := hs j (m - 1) (by omega) (by omega)
            have a2 := hs (m - 1) m (by omega) (by omega)
            omega
      · intro x
        rw [List.mem_append, h2, List.mem_singleton]
        constructor
        · rintro (⟨j, hj, e⟩ | e)
          · exact ⟨j, by omega, e⟩
          · exact ⟨m, by omega, e.symm⟩
        · rintro ⟨j, hj, e⟩
          by_cases hjm : j = m
          · exact .inr (by rw [← e, hjm])
          · exact .inl ⟨j, by omega, e⟩
    · rw [if_neg hk, List.append_nil]
      have hk' : ¬ m = 0 ∧ s[m]! = s[m - 1]! := by simpa [keeps] using hk
      refine ⟨h1, fun x => ?_⟩
      rw [h2]
      constructor
      · rintro ⟨j, hj, e⟩
        exact ⟨j, by omega, e⟩
      · rintro ⟨j, hj, e⟩
        by_cases hjm : j = m
        · exact ⟨m - 1, by omega, by rw [← e, hjm]; exact hk'.2.symm⟩
        · exact ⟨j, by omega, e⟩
/-- Sorted and compacted: the same. -/
theorem compact_sort (ks : List Int) : compact (ks.mergeSort fun x y => decide (x ≤ y)) = keysL ks := by
  have hp := List.mergeSort_perm ks (fun x y => decide (x ≤ y))
  have hw : (ks.mergeSort fun x y => decide (x ≤ y)).Pairwise fun x y => decide (x ≤ y) = true :=
    List.pairwise_mergeSort (fun a b c h1 h2 => by
      simp only [decide_eq_true_eq] at *
      omega) (fun a b => by
      simp only [Bool.or_eq_true, decide_eq_true_eq]
      omega) ks
  generalize (ks.mergeSort fun x y => decide (x ≤ y)) = l at hp hw ⊢
  have hs : ∀ i j, i < j → j < l.toArray.size → l.toArray[i]! ≤ l.toArray[j]! := fun i j hij hj => by
    have hj' : j < l.length := by simpa using hj
    have hi' : i < l.length := by omega
    have := List.pairwise_iff_getElem.1 hw i j hi' hj' hij
    rw [getElem!_pos l.toArray j (by simpa using hj'), getElem!_pos l.toArray i (by simpa using hi')]
    simpa using this
  obtain ⟨h1, h2⟩ := compact_rises l.toArray hs l.toArray.size (Nat.le_refl _)
  have hc : compact l = compactUpTo l.toArray l.toArray.size := by unfold compact; simp
  rw [hc]
  refine rises_ext h1 (keysL_rises ks) fun x => ?_
  rw [h2, mem_keysL, ← hp.mem_iff]
  constructor
  · rintro ⟨j, hj, e⟩
    have hj' : j < l.length := by simpa using hj
    rw [getElem!_pos l.toArray j hj] at e
    rw [← e]
    simp
  · intro hx
    obtain ⟨j, hj, e⟩ := List.getElem_of_mem hx
    refine ⟨j, by simpa using hj, ?_⟩
    rw [getElem!_pos l.toArray j (by simpa using hj)]
    simpa using e
theorem take_snoc {α : Type} (l : List α) (d : α) (k : Nat) (h : k < l.length) : l.take (k + 1) = l.take k ++ [l.getD k d] := by
  rw [List.take_succ_eq_append_getElem h, List.getD_eq_getElem?_getD, List.getElem?_eq_getElem h]; rfl
theorem drop_cons {α : Type} (l : List α) (d : α) (k : Nat) (h : k < l.length) : l.drop k = l.getD k d :: l.drop (k + 1) := by
  rw [List.drop_eq_getElem_cons h, List.getD_eq_getElem?_getD, List.getElem?_eq_getElem h]; rfl
/-! what is written -/
/-- How often a key is written. -/
def wrN (l : List Opr) (key : Int) : Nat := l.countP (fun o => !o.rd && decide (o.k = key))
theorem wrN_snoc (l : List Opr) (o : Opr) (key : Int) : wrN (l ++ [o]) key = wrN l key + (if o.rd = false ∧ o.k = key then 1 else 0) := by
  unfold wrN
  rw [List.countP_append, List.countP_singleton]
  congr 1
  cases o.rd <;> simp
theorem wrN_le (l : List Opr) (key : Int) : wrN l key ≤ l.length := List.countP_le_length
/-- Without its reads. -/
def bareL (l : List Opr) : List Opr := l.filter (fun o => !o.rd)
theorem bareL_snoc (l : List Opr) (o : Opr) : bareL (l ++ [o]) = bareL l ++ (if o.rd then [] else [o]) := by
  unfold bareL
  rw [List.filter_append]
  congr 1
  cases h : o.rd <;> simp [h]
theorem bareL_len (l : List Opr) : (bareL l).length ≤ l.length := List.length_filter_le _ _
/-- The keys of operations, all or those that are written. -/
def keysO (l : List Opr) : List Int := keysL (l.map Opr.k)
/-! why a transaction is not right -/
/-- pre: the operations ahead. -/
def rtGo (id : Int) : List Opr → List Opr → Int
  | _, [] => 0
  | pre, o :: l => if rightO o = false then 1 else if o.rd = true ∧ o.t = id ∧ (wrN pre o.k : Int) < o.n then 6 else rtGo id (pre ++ [o]) l
def rightT (id : Int) (l : List Opr) : Int := if id < 1 ∨ 1048575 < id then 1 else if 4095 < l.length then 9 else rtGo id [] l
theorem rt_at (id : Int) (l : List Opr) (k : Nat) (h : k < l.length) : rtGo id (l.take k) (l.drop k) = if rightO (l.getD k Opr.zero) = false then 1 else if (l.getD k Opr.zero).rd = true ∧ (l.getD k Opr.zero).t = id ∧ (wrN (l.take k) (l.getD k Opr.zero).k : Int) < (l.getD k Opr.zero).n then 6 else rtGo id (l.take (k + 1)) (l.drop (k + 1)) := by
  rw [drop_cons l Opr.zero k h, take_snoc l Opr.zero k h]
  rfl
theorem rt_end (id : Int) (l : List Opr) (k : Nat) (h : l.length ≤ k) : rtGo id (l.take k) (l.drop k) = 0 := by
  rw [List.drop_eq_nil_of_le h]
  rfl
/-! versions of others that are read -/
/-- The version that a read reads; a write's is none. -/
def verO (o : Opr) : Ver := if o.rd then ⟨o.t, o.k, o.n⟩ else ⟨0, 0, 0⟩
/-- Is a version among some? -/
def inV (l : List Ver) (v : Ver) : Bool := l.any (fun x => Ver.beq x v)
theorem inV_iff {l : List Ver} {v : Ver} : inV l v = true ↔ v ∈ l := by
  unfold inV
  rw [List.any_eq_true]
  constructor
  · rintro ⟨x, hx, e⟩
    rw [← (Ver.beq_iff _ _).1 e]; exact hx
  · intro h
    exact ⟨v, h, Ver.beq_self v⟩
/-- Is it needed? -/
def need (id : Int) (acc : List Ver) (o : Opr) : Bool := o.rd && decide (o.t ≠ 0) && decide (o.t ≠ id) && !inV acc (verO o)
def needStep (id : Int) (acc : List Ver) (o : Opr) : List Ver := if need id acc o then acc ++ [verO o] else acc
def needsL (id : Int) (l : List Opr) : List Ver := l.foldl (needStep id) []
theorem needs_snoc (id : Int) (l : List Opr) (o : Opr) : needsL id (l ++ [o]) = needStep id (needsL id l) o := by unfold needsL; rw [List.foldl_append]; rfl
theorem needs_len (id : Int) (l : List Opr) : (needsL id l).length ≤ l.length := by
  have : ∀ (l : List Opr) (acc : List Ver), (l.foldl (needStep id) acc).length ≤ acc.length + l.length := by
    intro l
    induction l with
    | nil => intro acc; simp
    | cons o l ih =>
      intro acc
      have h1 := ih (needStep id acc o)
      have h2 : (needStep id acc o).length ≤ acc.length + 1 := by unfold needStep; split <;> simp
      simp only [List.foldl_cons, List.length_cons]
      omega
  have := this l []
  simpa [needsL] using this
/-! its text -/
def endB (d : Bool) : List UInt8 := if d then [99] else [97]
def textT (id : Int) (d : Bool) (l : List Opr) : List UInt8 := itoa id ++ 32 :: endB d ++ (l.flatMap fun o => 32 :: textO o)
def wordsT (id : Int) (d : Bool) (l : List Opr) : List (List UInt8) := itoa id :: endB d :: l.map textO
theorem join_words (id : Int) (d : Bool) (l : List Opr) : Lib.join (wordsT id d l) [32] = textT id d l := by
  unfold wordsT textT
  rw [Lib.join_cons]
  unfold Lib.joinTail
  rw [List.append_assoc]
  congr 1
  rw [List.map_cons, List.flatten_cons, List.map_map, List.flatMap_def]
  rfl
end Go.Proofs.Ytmgkpabagpgilaa.Tx
