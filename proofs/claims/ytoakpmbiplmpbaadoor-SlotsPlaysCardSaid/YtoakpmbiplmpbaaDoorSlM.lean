/-
  Slots, told as the ids by slots; the document's pairs of them: what follows for both. Pure; not a statement of the seat.
-/
import Derived.Test.YtoakpmbiplmpbaaDoorRowList
import Derived.Test.YtoakpmbiplmpbaaDoorFPai
import Derived.Test.YtoakpmbiplmpbaaDoorPmRef3
namespace Go.Proofs.YtoakpmbiplmpbaaDoor.Sl
open Base Bits F
/-- The places of ids by slots that are taken, as bits. -/
def takenV : List Int → Nat
  | [] => 0
  | x :: l => (if x = 0 then 0 else 1) + 2 * takenV l
theorem takenV_bit : ∀ (l : List Int) (k : Nat), (takenV l).testBit k = decide (l.getD k 0 ≠ 0)
  | [], k => by simp [takenV]
  | x :: l, 0 => by
    rw [takenV, Nat.testBit_zero]
    by_cases h : x = 0
    · rw [if_pos h]; simp [h]
    · rw [if_neg h]; simp [h]
  | x :: l, k + 1 => by
    rw [takenV, Nat.testBit_succ, show ((if x = 0 then 0 else 1) + 2 * takenV l) / 2 = takenV l by split <;> omega, takenV_bit l k]
    simp
theorem takenV_lt (l : List Int) : takenV l < 2 ^ l.length := by
  induction l with
  | nil => simp [takenV]
  | cons x l ih => rw [takenV, List.length_cons, Nat.pow_succ]; split <;> omega
/-- How many are taken. -/
def cntL (l : List Int) : Nat := (l.filter fun x => x != 0).length
theorem cntL_le (l : List Int) : cntL l ≤ l.length := List.length_filter_le _ _
theorem cntL_cons (x : Int) (l : List Int) : cntL (x :: l) = (if x = 0 then 0 else 1) + cntL l := by
  unfold cntL
  by_cases h : x = 0
  · simp [h]
  · simp [h]; omega
/-- Where something stands first. -/
def posF : List Int → Int → Option Nat
  | [], _ => none
  | y :: l, x => if y = x then some 0 else (posF l x).map (· + 1)
theorem posF_some : ∀ {l : List Int} {x : Int} {k : Nat}, posF l x = some k → k < l.length ∧ l.getD k 0 = x ∧ ∀ j, j < k → l.getD j 0 ≠ x
  | [], _, _, h => by simp [posF] at h
  | y :: l, x, k, h => by
    unfold posF at h
    by_cases e : y = x
    · rw [if_pos e] at h
      obtain rfl := Option.some.inj h
      exact ⟨by simp, by simpa using e, fun j hj => absurd hj (Nat.not_lt_zero _)⟩
    · rw [if_neg e] at h
      rcases hp : posF l x with _ | m
      · rw [hp] at h; cases h
      · rw [hp] at h
        obtain rfl := Option.some.inj h
        obtain ⟨h1, h2, h3⟩ := posF_some hp
        refine ⟨by simpa using h1, by simpa using h2, fun j hj => ?_⟩
        replace hj : j < m + 1 := hj
        cases j with
        | zero => simpa using e
        | succ j => simpa using h3 j (by omega)
theorem posF_none : ∀ {l : List Int} {x : Int}, posF l x = none → ∀ j, j < l.length → l.getD j 0 ≠ x
  | [], _, _, j, hj => by simp at hj
  | y :: l, x, h, j, hj => by
    unfold posF at h
    by_cases e : y = x
    · rw [if_pos e] at h; cases h
    · rw [if_neg e] at h
      rcases hp : posF l x with _ | m
      · cases j with
        | zero => simpa using e
        | succ j => simpa using posF_none hp j (by simpa using hj)
      · rw [hp] at h; cases h
/-- The slot of an id. -/
def slotF (l : List Int) (x : Int) : Option Int := if x = 0 then none else (posF l x).map fun k : Nat => (k : Int)
/-- Ids by slots: in their bounds, each once. -/
def GoodI (l : List Int) : Prop := l.length ≤ 4096 ∧ (∀ j, j < l.length → 0 ≤ l.getD j 0 ∧ l.getD j 0 ≤ 1048575) ∧ ∀ i j, i < l.length → j < l.length → l.getD i 0 = l.getD j 0 → l.getD i 0 ≠ 0 → i = j
theorem slotF_iff {l : List Int} (hg : GoodI l) {x v : Int} : slotF l x = some v ↔ ∃ k : Nat, k < l.length ∧ l.getD k 0 = x ∧ x ≠ 0 ∧ v = k := by
  unfold slotF
  constructor
  · intro h
    by_cases e : x = 0
    · rw [if_pos e] at h; cases h
    · rw [if_neg e] at h
      rcases hp : posF l x with _ | m
      · rw [hp] at h; cases h
      · rw [hp] at h
        obtain rfl := Option.some.inj h
        obtain ⟨h1, h2, _⟩ := posF_some hp
        exact ⟨m, h1, h2, e, rfl⟩
  · rintro ⟨k, h1, h2, h3, rfl⟩
    rw [if_neg h3]
    rcases hp : posF l x with _ | m
    · exact absurd h2 (posF_none hp k h1)
    · obtain ⟨h4, h5, _⟩ := posF_some hp
      rw [hg.2.2 k m h1 h4 (by rw [h2, h5]) (by rw [h2]; exact h3)]
      rfl
theorem slotF_none {l : List Int} (hg : GoodI l) {x : Int} (h : slotF l x = none) (hx : x ≠ 0) (k : Nat) (hk : k < l.length) : l.getD k 0 ≠ x := fun e => by
  have := (slotF_iff hg).2 ⟨k, hk, e, hx, rfl⟩
  rw [h] at this; cases this
theorem slotF_out {l : List Int} (hg : GoodI l) {x : Int} (h : ¬ (1 ≤ x ∧ x ≤ 1048575)) : slotF l x = none := by
  rcases hs : slotF l x with _ | v
  · rfl
  · obtain ⟨k, h1, h2, h3, _⟩ := (slotF_iff hg).1 hs
    have := hg.2.1 k h1
    omega
theorem getD_set (l : List Int) (k j : Nat) (v : Int) : (l.set k v).getD j 0 = if j = k ∧ k < l.length then v else l.getD j 0 := by
  simp only [List.getD_eq_getElem?_getD, List.getElem?_set]
  by_cases h : k = j
  · subst h
    by_cases h2 : k < l.length
    · simp [h2]
    · simp [h2]
  · rw [if_neg h, if_neg (by omega)]
theorem good_new {l : List Int} (hg : GoodI l) {k : Nat} {x : Int} (hx : 1 ≤ x ∧ x ≤ 1048575) (hn : slotF l x = none) : GoodI (l.set k x) := by
  have hn' := slotF_none hg hn (by omega)
  refine ⟨by simpa using hg.1, fun j hj => ?_, fun i j hi hj he h0 => ?_⟩
  · rw [List.length_set] at hj
    rw [getD_set]
    split
    · omega
    · exact hg.2.1 j hj
  · rw [List.length_set] at hi hj
    rw [getD_set] at he h0
    rw [getD_set] at he
    by_cases c1 : i = k ∧ k < l.length
    · rw [if_pos c1] at he
      by_cases c2 : j = k ∧ k < l.length
      · omega
      · rw [if_neg c2] at he; exact absurd he.symm (hn' j hj)
    · rw [if_neg c1] at he h0
      by_cases c2 : j = k ∧ k < l.length
      · rw [if_pos c2] at he; exact absurd he (hn' i hi)
      · rw [if_neg c2] at he; exact hg.2.2 i j hi hj he h0
theorem good_zero {l : List Int} (hg : GoodI l) (k : Nat) : GoodI (l.set k 0) := by
  refine ⟨by simpa using hg.1, fun j hj => ?_, fun i j hi hj he h0 => ?_⟩
  · rw [List.length_set] at hj
    rw [getD_set]
    split
    · omega
    · exact hg.2.1 j hj
  · rw [List.length_set] at hi hj
    rw [getD_set] at he h0
    rw [getD_set] at he
    by_cases c1 : i = k ∧ k < l.length
    · rw [if_pos c1] at h0; exact absurd rfl h0
    · rw [if_neg c1] at he h0
      by_cases c2 : j = k ∧ k < l.length
      · rw [if_pos c2] at he; exact absurd he h0
      · rw [if_neg c2] at he; exact hg.2.2 i j hi hj he h0
theorem slotF_new {l : List Int} (hg : GoodI l) {k : Nat} {x : Int} (hx : 1 ≤ x ∧ x ≤ 1048575) (hn : slotF l x = none) (hk : k < l.length) (h0 : l.getD k 0 = 0) (y : Int) : slotF (l.set k x) y = if y = x then some (k : Int) else slotF l y := by
  have hg' := good_new (k := k) hg hx hn
  by_cases e : y = x
  · rw [if_pos e]
    exact (slotF_iff hg').2 ⟨k, by simpa using hk, by rw [getD_set, if_pos ⟨rfl, hk⟩, e], by omega, rfl⟩
  · rw [if_neg e]
    apply Option.ext
    intro v
    rw [slotF_iff hg', slotF_iff hg]
    constructor
    · rintro ⟨m, h1, h2, h3, h4⟩
      rw [List.length_set] at h1
      rw [getD_set] at h2
      by_cases c : m = k ∧ k < l.length
      · rw [if_pos c] at h2; exact absurd h2.symm e
      · rw [if_neg c] at h2; exact ⟨m, h1, h2, h3, h4⟩
    · rintro ⟨m, h1, h2, h3, h4⟩
      refine ⟨m, by simpa using h1, ?_, h3, h4⟩
      rw [getD_set, if_neg]
      · exact h2
      · rintro ⟨rfl, _⟩; rw [h0] at h2; exact h3 h2.symm
theorem slotF_zero {l : List Int} (hg : GoodI l) {k : Nat} (hk : k < l.length) (h0 : l.getD k 0 ≠ 0) (y : Int) : slotF (l.set k 0) y = if y = l.getD k 0 then none else slotF l y := by
  have hg' := good_zero hg k
  by_cases e : y = l.getD k 0
  · rw [if_pos e]
    rcases hs : slotF (l.set k 0) y with _ | v
    · rfl
    · obtain ⟨m, h1, h2, h3, _⟩ := (slotF_iff hg').1 hs
      rw [List.length_set] at h1
      rw [getD_set] at h2
      by_cases c : m = k ∧ k < l.length
      · rw [if_pos c] at h2; exact absurd h2.symm h3
      · rw [if_neg c] at h2
        have := hg.2.2 m k h1 hk (by rw [h2, e]) (by rw [h2]; exact h3)
        omega
  · rw [if_neg e]
    apply Option.ext
    intro v
    rw [slotF_iff hg', slotF_iff hg]
    constructor
    · rintro ⟨m, h1, h2, h3, h4⟩
      rw [List.length_set] at h1
      rw [getD_set] at h2
      by_cases c : m = k ∧ k < l.length
      · rw [if_pos c] at h2; exact absurd h2.symm h3
      · rw [if_neg c] at h2; exact ⟨m, h1, h2, h3, h4⟩
    · rintro ⟨m, h1, h2, h3, h4⟩
      refine ⟨m, by simpa using h1, ?_, h3, h4⟩
      rw [getD_set, if_neg]
      · exact h2
      · rintro ⟨rfl, _⟩; exact e h2.symm
theorem cntL_set : ∀ (l : List Int) (k : Nat) (v : Int), k < l.length → cntL (l.set k v) + (if l.getD k 0 = 0 then 0 else 1) = cntL l + (if v = 0 then 0 else 1)
  | [], k, v, h => by simp at h
  | x :: l, 0, v, h => by
    rw [List.set_cons_zero, cntL_cons, cntL_cons]
    simp only [List.getD_cons_zero]
    omega
  | x :: l, k + 1, v, h => by
    rw [List.set_cons_succ, cntL_cons, cntL_cons]
    have := cntL_set l k v (by simpa using h)
    simp only [List.getD_cons_succ]
    omega
theorem takenV_set {l : List Int} {k : Nat} (hk : k < l.length) (v : Int) (on : Bool) (hon : on = decide (v ≠ 0)) : takenV (l.set k v) = setV l.length (takenV l) (k : Int) on := by
  apply Nat.eq_of_testBit_eq
  intro i
  rw [takenV_bit, getD_set]
  unfold setV
  rw [Int.toNat_natCast, takenV_bit]
  by_cases c : i = k
  · subst c
    rw [if_pos ⟨rfl, hk⟩]
    by_cases h : (decide (l.getD i 0 ≠ 0)) = on
    · rw [if_neg (by rintro ⟨_, _, h3⟩; exact h3 h), takenV_bit, h, hon]
    · rw [if_pos ⟨by omega, by omega, h⟩, Nat.testBit_xor, takenV_bit, Nat.testBit_two_pow_self]
      revert h
      rw [hon]
      cases decide (l.getD i 0 ≠ 0) <;> cases decide (v ≠ 0) <;> simp
  · rw [if_neg (by omega)]
    split
    · rw [Nat.testBit_xor, takenV_bit, Nat.testBit_two_pow_of_ne (by omega), Bool.xor_false]
    · rw [takenV_bit]
theorem filter_rep (n : Nat) : cntL (List.replicate n 0) = 0 := by
  unfold cntL
  rw [List.filter_eq_nil_iff.2 (by intro a ha; simp at ha; simp [ha.2])]
  rfl
theorem getD_rep (n k : Nat) : (List.replicate n (0 : Int)).getD k 0 = 0 := by
  rw [List.getD_eq_getElem?_getD, List.getElem?_replicate]
  split <;> rfl
theorem good_rep {n : Nat} (h : n ≤ 4096) : GoodI (List.replicate n 0) := by
  refine ⟨by simpa using h, fun j _ => ?_, fun i j _ _ _ h0 => absurd (getD_rep n i) h0⟩
  rw [getD_rep]; omega
theorem slotF_rep (n : Nat) (h : n ≤ 4096) (x : Int) : slotF (List.replicate n 0) x = none := by
  rcases hs : slotF (List.replicate n 0) x with _ | v
  · rfl
  · obtain ⟨m, h1, h2, h3, _⟩ := (slotF_iff (good_rep h)).1 hs
    rw [getD_rep] at h2
    exact absurd h2.symm h3
theorem takenV_rep (n : Nat) : takenV (List.replicate n 0) = 0 := by
  induction n with
  | zero => rfl
  | succ n ih => rw [List.replicate_succ, takenV, ih]; rfl
/-! what Take and Free make -/
def takeL (l : List Int) (x : Int) : List Int × Int × Int :=
  if ¬ (1 ≤ x ∧ x ≤ 1048575) then (l, 0, 1) else if (slotF l x).isSome = true then (l, 0, 4) else match posF l 0 with
    | none => (l, 0, 2)
    | some k => (l.set k x, (k : Int), 0)
def freeL (l : List Int) (x : Int) : List Int × Int := match slotF l x with
  | none => (l, 3)
  | some v => (l.set v.toNat 0, 0)
/-! the document's pairs -/
def pairsO : Nat → List Int → List Pai
  | _, [] => []
  | o, x :: l => (if x = 0 then [] else [⟨(o : Int), x⟩]) ++ pairsO (o + 1) l
def pairsL (l : List Int) : List Pai := pairsO 0 l
theorem pairsO_len : ∀ (o : Nat) (l : List Int), (pairsO o l).length = cntL l
  | _, [] => rfl
  | o, x :: l => by
    rw [pairsO, List.length_append, pairsO_len (o + 1) l, cntL_cons]
    split <;> rfl
theorem pairsO_mem : ∀ {o : Nat} {l : List Int} {p : Pai}, p ∈ pairsO o l → ∃ k : Nat, k < l.length ∧ p.k = ((o + k : Nat) : Int) ∧ p.v = l.getD k 0 ∧ p.v ≠ 0
  | _, [], p, h => by simp [pairsO] at h
  | o, x :: l, p, h => by
    rw [pairsO, List.mem_append] at h
    rcases h with h | h
    · by_cases e : x = 0
      · rw [if_pos e] at h; simp at h
      · rw [if_neg e, List.mem_singleton] at h
        subst h
        exact ⟨0, by simp, by simp, by simp, e⟩
    · obtain ⟨k, h1, h2, h3, h4⟩ := pairsO_mem h
      exact ⟨k + 1, by simpa using h1, by rw [h2]; congr 1; omega, by simpa using h3, h4⟩
theorem pairsO_app : ∀ (o : Nat) (a b : List Int), pairsO o (a ++ b) = pairsO o a ++ pairsO (o + a.length) b
  | o, [], b => by simp [pairsO]
  | o, x :: a, b => by
    rw [List.cons_append, pairsO, pairsO, pairsO_app (o + 1) a b, List.append_assoc, List.length_cons, show o + 1 + a.length = o + (a.length + 1) by omega]
theorem pairsL_at {l : List Int} {k : Nat} (hk : k < l.length) (v : Int) : pairsL (l.set k v) = pairsO 0 (l.take k) ++ ((if v = 0 then [] else [⟨(k : Int), v⟩]) ++ pairsO (k + 1) (l.drop (k + 1))) := by
  rw [pairsL, List.set_eq_take_append_cons_drop, if_pos hk, pairsO_app, pairsO, List.length_take, show 0 + min k l.length = k by omega]
theorem pairsL_id {l : List Int} {k : Nat} (hk : k < l.length) : pairsL l = pairsO 0 (l.take k) ++ ((if l.getD k 0 = 0 then [] else [⟨(k : Int), l.getD k 0⟩]) ++ pairsO (k + 1) (l.drop (k + 1))) := by
  have : l.set k (l.getD k 0) = l := by
    apply List.ext_getElem?
    intro i
    rw [List.getElem?_set]
    by_cases h : k = i
    · subst h; simp [hk, List.getD_eq_getElem?_getD]
    · rw [if_neg h]
  rw [← pairsL_at hk, this]
theorem low_keys {l : List Int} {k : Nat} (p : Pai) (h : p ∈ pairsO 0 (l.take k)) : p.k < (k : Int) := by
  obtain ⟨j, h1, h2, _⟩ := pairsO_mem h
  rw [List.length_take] at h1
  rw [h2]; omega
theorem high_keys {l : List Int} {k : Nat} (p : Pai) (h : p ∈ pairsO (k + 1) l) : (k : Int) < p.k := by
  obtain ⟨j, h1, h2, _⟩ := pairsO_mem h
  rw [h2]; omega
theorem putF_low (key val : Int) : ∀ (A : List Pai) (s : List Pai), (∀ p ∈ A, p.k < key) → A.foldl (putStep key val) (s, false) = (s ++ A, false)
  | [], s, _ => by simp
  | p :: A, s, h => by
    have hp : p.k < key := h p (List.mem_cons_self ..)
    have h1 : (p.k == key) = false := by rw [beq_eq_false_iff_ne]; omega
    have h2 : decide (key ≤ p.k) = false := by rw [decide_eq_false_iff_not]; omega
    rw [List.foldl_cons, show putStep key val (s, false) p = (s ++ [p], false) by unfold putStep; simp [h1, h2], putF_low key val A _ (fun q hq => h q (List.mem_cons_of_mem _ hq))]
    simp
theorem putF_high (key val : Int) : ∀ (B : List Pai) (s : List Pai), (∀ p ∈ B, key < p.k) → B.foldl (putStep key val) (s, true) = (s ++ B, true)
  | [], s, _ => by simp
  | p :: B, s, h => by
    have hp : key < p.k := h p (List.mem_cons_self ..)
    have h1 : (p.k == key) = false := by rw [beq_eq_false_iff_ne]; omega
    rw [List.foldl_cons, show putStep key val (s, true) p = (s ++ [p], true) by unfold putStep; simp [h1], putF_high key val B _ (fun q hq => h q (List.mem_cons_of_mem _ hq))]
    simp
theorem putL_new {key val : Int} {A B : List Pai} (hA : ∀ p ∈ A, p.k < key) (hB : ∀ p ∈ B, key < p.k) : putL key val (A ++ B) = A ++ ⟨key, val⟩ :: B := by
  unfold putL putF
  rw [List.foldl_append, putF_low key val A [] hA, List.nil_append]
  cases B with
  | nil => simp
  | cons p B =>
    have hp : key < p.k := hB p (List.mem_cons_self ..)
    have h1 : (p.k == key) = false := by rw [beq_eq_false_iff_ne]; omega
    have h2 : decide (key ≤ p.k) = true := by rw [decide_eq_true_eq]; omega
    rw [List.foldl_cons, show putStep key val (A, false) p = (A ++ [⟨key, val⟩] ++ [p], true) by unfold putStep; simp [h1, h2], putF_high key val B _ (fun q hq => hB q (List.mem_cons_of_mem _ hq))]
    simp
theorem putL_old {key val v : Int} {A B : List Pai} (hA : ∀ p ∈ A, p.k < key) (hB : ∀ p ∈ B, key < p.k) : putL key val (A ++ ⟨key, v⟩ :: B) = A ++ ⟨key, val⟩ :: B := by
  unfold putL putF
  rw [List.foldl_append, putF_low key val A [] hA, List.nil_append, List.foldl_cons, show putStep key val (A, false) ⟨key, v⟩ = (A ++ [⟨key, val⟩], true) by unfold putStep; simp, putF_high key val B _ hB]
  simp
theorem delL_ne {key : Int} {A : List Pai} (h : ∀ p ∈ A, p.k ≠ key) : delL key A = A ∧ hasL key A = false ∧ A.find? (fun p => p.k == key) = none := by
  refine ⟨?_, ?_, ?_⟩
  · unfold delL
    rw [List.filter_eq_self]
    intro p hp
    simp [h p hp]
  · unfold hasL
    rw [List.any_eq_false]
    intro p hp
    simp [h p hp]
  · rw [List.find?_eq_none]
    intro p hp
    simp [h p hp]
theorem pairs_put {l : List Int} {k : Nat} (hk : k < l.length) (h0 : l.getD k 0 = 0) {v : Int} (hv : v ≠ 0) : putL (k : Int) v (pairsL l) = pairsL (l.set k v) := by
  rw [pairsL_at hk, if_neg hv, pairsL_id hk, if_pos h0, List.nil_append, putL_new (fun p => low_keys p) (fun p => high_keys p)]
  rfl
theorem pairs_del {l : List Int} {k : Nat} (hk : k < l.length) (h0 : l.getD k 0 ≠ 0) : delL (k : Int) (pairsL l) = pairsL (l.set k 0) := by
  have h1 := (delL_ne (key := (k : Int)) (A := pairsO 0 (l.take k)) fun p hp => by have := low_keys p hp; omega).1
  have h2 := (delL_ne (key := (k : Int)) (A := pairsO (k + 1) (l.drop (k + 1))) fun p hp => by have := high_keys p hp; omega).1
  rw [pairsL_at hk, if_pos rfl, pairsL_id hk, if_neg h0, List.nil_append]
  unfold delL at h1 h2 ⊢
  rw [List.filter_append, List.filter_append, h1, h2]
  simp
/-- Whose a slot is, by the document; an id's slot. -/
def idR (q : List Pai) (i : Int) : Int := match q.find? fun p => p.k == i with
  | none => 0
  | some p => p.v
def slotR (q : List Pai) (x : Int) : Int := match q.find? fun p => p.v == x with
  | none => -1
  | some p => p.k
theorem find_none {α : Type} {f : α → Bool} {l : List α} (h : ∀ p ∈ l, f p = false) : l.find? f = none := by
  rw [List.find?_eq_none]
  intro p hp
  rw [h p hp]; simp
theorem idR_pairs (l : List Int) (i : Int) : idR (pairsL l) i = if 0 ≤ i ∧ i < l.length then l.getD i.toNat 0 else 0 := by
  unfold idR
  by_cases h : 0 ≤ i ∧ i < l.length
  · rw [if_pos h]
    obtain ⟨k, rfl⟩ := Int.eq_ofNat_of_zero_le h.1
    have hk : k < l.length := by omega
    rw [Int.toNat_natCast, pairsL_id hk, List.find?_append, find_none (fun p hp => by have := low_keys p hp; simp; omega), Option.none_or]
    by_cases h0 : l.getD k 0 = 0
    · rw [if_pos h0, List.nil_append, find_none (fun p hp => by have := high_keys p hp; simp; omega), h0]
    · rw [if_neg h0]
      simp
  · rw [if_neg h, find_none]
    intro p hp
    obtain ⟨j, h1, h2, _⟩ := pairsO_mem hp
    simp
    omega
theorem slotR_pairs {l : List Int} (hg : GoodI l) (x : Int) : slotR (pairsL l) x = (slotF l x).getD (-1) := by
  unfold slotR
  rcases hs : slotF l x with _ | v
  · by_cases h0 : x = 0
    · rw [find_none]
      · rfl
      · intro p hp
        obtain ⟨j, h1, h2, h3, h4⟩ := pairsO_mem hp
        simp; omega
    · rw [find_none]
      · rfl
      · intro p hp
        obtain ⟨j, h1, h2, h3, h4⟩ := pairsO_mem hp
        have := slotF_none hg hs h0 j h1
        simp; omega
  · obtain ⟨k, hk, h2, h3, rfl⟩ := (slotF_iff hg).1 hs
    rw [pairsL_id hk, List.find?_append, find_none, Option.none_or, if_neg (by omega), h2]
    · simp
    · intro p hp
      obtain ⟨j, h4, h5, h6, h7⟩ := pairsO_mem hp
      rw [List.length_take] at h4
      have h8 : (l.take k).getD j 0 = l.getD j 0 := by
        rw [List.getD_eq_getElem?_getD, List.getD_eq_getElem?_getD, List.getElem?_take, if_pos (by omega)]
      simp
      intro e
      have := hg.2.2 j k (by omega) hk (by omega) (by omega)
      omega
/-- What List tells. -/
theorem pairs_row (l : List Int) : (rowInts l.length (takenV l)).map (fun j : Int => (⟨j, l.getD j.toNat 0⟩ : Pai)) = pairsL l := by
  have key : ∀ (l m : List Int) (o : Nat), (∀ k, k < l.length → m.getD (o + k) 0 = l.getD k 0) → (((List.range l.length).filter fun k => decide (l.getD k 0 ≠ 0)).map fun k => (⟨((o + k : Nat) : Int), m.getD (o + k) 0⟩ : Pai)) = pairsO o l := by
    intro l
    induction l with
    | nil => intro m o _; rfl
    | cons x l ih =>
      intro m o hm
      have h1 := ih m (o + 1) fun k hk => by have := hm (k + 1) (by simpa using hk); simpa [Nat.add_assoc, Nat.add_comm 1] using this
      rw [List.length_cons, List.range_succ_eq_map, List.filter_cons, List.filter_map, pairsO]
      have h2 : (fun k => decide ((x :: l).getD k 0 ≠ 0)) ∘ Nat.succ = fun k => decide (l.getD k 0 ≠ 0) := by funext k; simp
      have h3 : ∀ k, o + Nat.succ k = o + 1 + k := fun k => by omega
      have h0 := hm 0 (by simp)
      simp only [Nat.add_zero, List.getD_cons_zero] at h0
      rw [h2]
      by_cases e : x = 0
      · rw [if_pos e, if_neg (by simpa using e), List.nil_append, ← h1, List.map_map]
        apply List.map_congr_left
        intro k _
        simp only [Function.comp]
        rw [h3]
      · rw [if_neg e, if_pos (by simpa using e), List.map_cons, ← h1, List.map_map, List.singleton_append, Nat.add_zero, h0]
        congr 1
        apply List.map_congr_left
        intro k _
        simp only [Function.comp]
        rw [h3]
  have h := key l l 0 (fun k _ => by rw [Nat.zero_add])
  rw [pairsL, ← h]
  unfold rowInts placesTo
  rw [List.map_map]
  have h2 : (fun x => (takenV l).testBit x) = fun k => decide (l.getD k 0 ≠ 0) := funext fun k => takenV_bit l k
  rw [h2]
  apply List.map_congr_left
  intro k _
  simp
end Go.Proofs.YtoakpmbiplmpbaaDoor.Sl
