/-
  Plain facts on rising lists of places: what the document's Put, Or, Minus, And, Moved make of the places of a number. No program.
-/
import Derived.Test.YtoakpmbiplmpbaaDoorRow12
namespace Go.Proofs.YtoakpmbiplmpbaaDoor.Bits
theorem sorted_ext : ∀ {l m : List Int}, l.Pairwise (· < ·) → m.Pairwise (· < ·) → (∀ x, x ∈ l ↔ x ∈ m) → l = m
  | [], [], _, _, _ => rfl
  | [], y :: m, _, _, h => absurd ((h y).2 (by simp)) (by simp)
  | x :: l, [], _, _, h => absurd ((h x).1 (by simp)) (by simp)
  | x :: l, y :: m, hl, hm, h => by
    rw [List.pairwise_cons] at hl hm
    have e : x = y := by
      have h1 := (h x).1 (by simp)
      have h2 := (h y).2 (by simp)
      rw [List.mem_cons] at h1 h2
      rcases h1 with h1 | h1
      · exact h1
      · rcases h2 with h2 | h2
        · exact h2.symm
        · have a := hm.1 x h1
          have b := hl.1 y h2
          omega
    subst e
    rw [sorted_ext hl.2 hm.2 fun z => ?_]
    have hz := h z
    rw [List.mem_cons, List.mem_cons] at hz
    constructor
    · intro hzl
      rcases hz.1 (.inr hzl) with h1 | h1
      · have := hl.1 z hzl; omega
      · exact h1
    · intro hzm
      rcases hz.2 (.inr hzm) with h1 | h1
      · have := hm.1 z hzm; omega
      · exact h1
theorem mem_intsOf {n V : Nat} {x : Int} : x ∈ intsOf n V ↔ ∃ j : Nat, x = j ∧ j < n ∧ V.testBit j = true := by
  unfold intsOf placesTo
  rw [List.mem_map]
  constructor
  · rintro ⟨j, hj, rfl⟩
    rw [List.mem_filter, List.mem_range] at hj
    exact ⟨j, rfl, hj⟩
  · rintro ⟨j, rfl, hj⟩
    exact ⟨j, by rw [List.mem_filter, List.mem_range]; exact hj, rfl⟩
theorem sorted_intsOf (n V : Nat) : (intsOf n V).Pairwise (· < ·) := by
  unfold intsOf placesTo
  rw [List.pairwise_map]
  refine (List.Pairwise.filter _ (List.pairwise_lt_range)).imp ?_
  intro a b h
  omega
theorem intsOf_zero (n : Nat) : intsOf n 0 = [] := by
  rw [List.eq_nil_iff_forall_not_mem]
  intro x hx
  obtain ⟨j, _, _, h⟩ := mem_intsOf.1 hx
  rw [Nat.zero_testBit] at h; cases h
theorem intsOf_inj {n V W : Nat} (hV : V < 2 ^ n) (hW : W < 2 ^ n) (h : intsOf n V = intsOf n W) : V = W := by
  apply Nat.eq_of_testBit_eq
  intro i
  by_cases hi : i < n
  · have h1 : ((i : Nat) : Int) ∈ intsOf n V ↔ ((i : Nat) : Int) ∈ intsOf n W := by rw [h]
    rw [mem_intsOf, mem_intsOf] at h1
    have h2 : ∀ U : Nat, (∃ j : Nat, ((i : Nat) : Int) = j ∧ j < n ∧ U.testBit j = true) ↔ U.testBit i = true := fun U =>
      ⟨fun ⟨j, e, _, hb⟩ => by rw [show i = j by omega]; exact hb, fun hb => ⟨i, rfl, hi, hb⟩⟩
    rw [h2, h2] at h1
    rw [Bool.eq_iff_iff]; exact h1
  · rw [high_bit hV (by omega), high_bit hW (by omega)]
theorem intsOf_ne {n V W : Nat} (hV : V < 2 ^ n) (hW : W < 2 ^ n) : decide (intsOf n V = intsOf n W) = decide (V = W) := by
  rw [Bool.eq_iff_iff, decide_eq_true_iff, decide_eq_true_iff]
  exact ⟨intsOf_inj hV hW, fun e => by rw [e]⟩
theorem intsOf_in {n V : Nat} (i : Int) : decide (i ∈ intsOf n V) = hasI n V i := by
  unfold hasI
  rw [Bool.eq_iff_iff, decide_eq_true_iff, Bool.and_eq_true, decide_eq_true_iff, mem_intsOf]
  constructor
  · rintro ⟨j, rfl, h1, h2⟩
    exact ⟨by omega, by rw [Int.toNat_natCast]; exact h2⟩
  · rintro ⟨⟨h1, h2⟩, h3⟩
    exact ⟨i.toNat, by omega, by omega, h3⟩
theorem intsOf_bound {n V : Nat} (hn : n ≤ 65536) {j : Nat} (h : j < (intsOf n V).length) : 0 ≤ (intsOf n V).getD j 0 ∧ (intsOf n V).getD j 0 ≤ 65536 := by
  have hm : (intsOf n V).getD j 0 ∈ intsOf n V := by simp [h]
  obtain ⟨k, hk, h1, _⟩ := mem_intsOf.1 hm
  omega
theorem minus_ints {n V m O : Nat} (hO : O < 2 ^ m) : (intsOf n V).filter (fun x => !decide (x ∈ intsOf m O)) = intsOf n (minusV V O) := by
  refine sorted_ext (List.Pairwise.filter _ (sorted_intsOf _ _)) (sorted_intsOf _ _) fun x => ?_
  rw [List.mem_filter, mem_intsOf (n := n) (V := V), mem_intsOf (n := n) (V := minusV V O)]
  constructor
  · rintro ⟨⟨j, rfl, h1, h2⟩, h3⟩
    refine ⟨j, rfl, h1, ?_⟩
    rw [minusV_testBit, h2]
    cases hb : O.testBit j
    · rfl
    · have hjm : j < m := by
        rcases Nat.lt_or_ge j m with h | h
        · exact h
        · rw [high_bit hO h] at hb; cases hb
      rw [decide_eq_true (mem_intsOf.2 ⟨j, rfl, hjm, hb⟩)] at h3; cases h3
  · rintro ⟨j, rfl, h1, h2⟩
    rw [minusV_testBit, Bool.and_eq_true, Bool.not_eq_true'] at h2
    refine ⟨⟨j, rfl, h1, h2.1⟩, ?_⟩
    rw [Bool.not_eq_true', decide_eq_false_iff_not]
    intro hm
    obtain ⟨k, e, _, hb⟩ := mem_intsOf.1 hm
    rw [show k = j by omega, h2.2] at hb; cases hb
theorem and_ints {n V m O : Nat} (hO : O < 2 ^ m) : (intsOf n V).filter (fun x => decide (x ∈ intsOf m O)) = intsOf n (V &&& O) := by
  refine sorted_ext (List.Pairwise.filter _ (sorted_intsOf _ _)) (sorted_intsOf _ _) fun x => ?_
  rw [List.mem_filter, mem_intsOf (n := n) (V := V), mem_intsOf (n := n) (V := V &&& O)]
  constructor
  · rintro ⟨⟨j, rfl, h1, h2⟩, h3⟩
    rw [decide_eq_true_iff, mem_intsOf] at h3
    obtain ⟨k, e, _, hb⟩ := h3
    refine ⟨j, rfl, h1, ?_⟩
    rw [Nat.testBit_and, h2, show j = k by omega, hb]
    rfl
  · rintro ⟨j, rfl, h1, h2⟩
    rw [Nat.testBit_and, Bool.and_eq_true] at h2
    refine ⟨⟨j, rfl, h1, h2.1⟩, ?_⟩
    rw [decide_eq_true_iff, mem_intsOf]
    refine ⟨j, rfl, ?_, h2.2⟩
    rcases Nat.lt_or_ge j m with h | h
    · exact h
    · have := h2.2; rw [high_bit hO h] at this; cases this
/-- What the document's Moved tells. -/
def movedL (n k : Int) (xs : List Int) : List Int := if n ≤ k ∨ k ≤ -n then [] else (xs.filter fun x => decide (0 ≤ x + k ∧ x + k < n)).map (· + k)
theorem moved_ints {n V : Nat} {k : Int} (hV : V < 2 ^ n) : movedL n k (intsOf n V) = intsOf n (movV n V k) := by
  unfold movedL
  by_cases hc : (n : Int) ≤ k ∨ k ≤ -(n : Int)
  · rw [if_pos hc]
    unfold movV
    rw [if_pos hc, intsOf_zero]
  · rw [if_neg hc]
    refine sorted_ext ?_ (sorted_intsOf _ _) fun x => ?_
    · rw [List.pairwise_map]
      exact (List.Pairwise.filter _ (sorted_intsOf _ _)).imp fun h => by omega
    · rw [List.mem_map, mem_intsOf]
      constructor
      · rintro ⟨y, hy, rfl⟩
        rw [List.mem_filter, decide_eq_true_iff, mem_intsOf] at hy
        obtain ⟨⟨j, rfl, h1, h2⟩, h3, h4⟩ := hy
        refine ⟨((j : Int) + k).toNat, by omega, by omega, ?_⟩
        rw [movV_testBit hV, decide_eq_true (by omega), Bool.true_and, show ((((j : Int) + k).toNat : Nat) : Int) - k = (j : Int) by omega]
        unfold bitAt
        rw [decide_eq_true (by omega), Int.toNat_natCast, h2]
        rfl
      · rintro ⟨j, rfl, h1, h2⟩
        rw [movV_testBit hV, Bool.and_eq_true] at h2
        obtain ⟨_, h3⟩ := h2
        unfold bitAt at h3
        rw [Bool.and_eq_true, decide_eq_true_iff] at h3
        obtain ⟨h4, h5⟩ := h3
        have h6 : ((j : Int) - k).toNat < n := by
          rcases Nat.lt_or_ge ((j : Int) - k).toNat n with h | h
          · exact h
          · rw [high_bit hV h] at h5; cases h5
        refine ⟨(j : Int) - k, ?_, by omega⟩
        rw [List.mem_filter, decide_eq_true_iff, mem_intsOf]
        exact ⟨⟨((j : Int) - k).toNat, by omega, h6, h5⟩, by omega, by omega⟩
theorem setV_testBit (n V : Nat) (i : Int) (on : Bool) (j : Nat) : (setV n V i on).testBit j = if 0 ≤ i ∧ i < n ∧ (j : Int) = i then on else V.testBit j := by
  unfold setV
  split
  · rename_i h
    rw [Nat.testBit_xor, Nat.testBit_two_pow]
    split
    · rename_i h'
      obtain ⟨h1, h2, h3⟩ := h
      rw [← h'.2.2, Int.toNat_natCast] at h3 ⊢
      rw [decide_eq_true rfl]
      revert h3
      cases V.testBit j <;> cases on <;> simp
    · rename_i h'
      rw [decide_eq_false (by omega)]
      cases V.testBit j <;> rfl
  · rename_i h
    split
    · rename_i h'
      have : V.testBit i.toNat = on := by
        refine Classical.byContradiction fun hne => h ⟨h'.1, h'.2.1, hne⟩
      rw [← this, ← h'.2.2, Int.toNat_natCast]
    · rfl
theorem setV_lt' {n V : Nat} {i : Int} {on : Bool} (hV : V < 2 ^ n) : setV n V i on < 2 ^ n := lt_of_bits fun j hj => by
  rw [setV_testBit, if_neg (by omega), high_bit hV hj]
theorem setV_ne (n V : Nat) (i : Int) (on : Bool) : decide (0 ≤ i ∧ i < n ∧ V.testBit i.toNat ≠ on) = decide (setV n V i on ≠ V) := by
  by_cases h : 0 ≤ i ∧ i < n ∧ V.testBit i.toNat ≠ on
  · rw [decide_eq_true h, decide_eq_true]
    intro e
    have h1 := setV_testBit n V i on i.toNat
    rw [e, if_pos ⟨h.1, h.2.1, by omega⟩] at h1
    exact h.2.2 h1
  · rw [decide_eq_false h, decide_eq_false]
    rw [Decidable.not_not]
    unfold setV
    rw [if_neg h]
/-- One step of the document's Put. -/
def putStep (i : Int) (s : Bool × List Int) (x : Int) : Bool × List Int :=
  (s.1 || decide (i ≤ x), (s.2 ++ if !s.1 && decide (i ≤ x) then [i] else []) ++ if x = i then [] else [x])
theorem putStep_len (i : Int) : ∀ (xs : List Int) (s : Bool × List Int), (xs.foldl (putStep i) s).2.length ≤ s.2.length + 2 * xs.length
  | [], s => by simp
  | x :: xs, s => by
    rw [List.foldl_cons]
    have h := putStep_len i xs (putStep i s x)
    have h2 : (putStep i s x).2.length ≤ s.2.length + 2 := by
      unfold putStep
      simp only [List.length_append]
      split <;> split <;> simp
    simp only [List.length_cons]
    omega
theorem put_true (i : Int) : ∀ (xs : List Int) (out : List Int), xs.foldl (putStep i) (true, out) = (true, out ++ xs.filter (fun x => !decide (x = i)))
  | [], out => by simp
  | x :: xs, out => by
    rw [List.foldl_cons, show putStep i (true, out) x = (true, out ++ if x = i then [] else [x]) by simp [putStep], put_true i xs]
    by_cases h : x = i <;> simp [h]
theorem put_false (i : Int) : ∀ (xs : List Int) (out : List Int), xs.Pairwise (· < ·) → (xs.foldl (putStep i) (false, out)).2 ++ (if (xs.foldl (putStep i) (false, out)).1 then [] else [i]) = out ++ (xs.filter (fun x => decide (x < i)) ++ ([i] ++ xs.filter (fun x => decide (i < x))))
  | [], out, _ => by simp
  | x :: xs, out, hs => by
    rw [List.pairwise_cons] at hs
    rw [List.foldl_cons]
    by_cases h : i ≤ x
    · rw [show putStep i (false, out) x = (true, (out ++ [i]) ++ if x = i then [] else [x]) by simp [putStep, h], put_true]
      have e1 : (x :: xs).filter (fun x => decide (x < i)) = [] := by
        rw [List.filter_eq_nil_iff]
        intro y hy
        rw [List.mem_cons] at hy
        rcases hy with rfl | hy
        · simp; omega
        · have := hs.1 y hy; simp; omega
      have e2 : xs.filter (fun x => !decide (x = i)) = xs.filter (fun x => decide (i < x)) := by
        apply List.filter_congr
        intro y hy
        have := hs.1 y hy
        rw [decide_eq_false (by omega : ¬ y = i), decide_eq_true (by omega : i < y)]; rfl
      rw [e1, e2]
      by_cases hx : x = i
      · subst hx; simp
      · have : i < x := by omega
        simp [hx, this]
    · rw [show putStep i (false, out) x = (false, out ++ [x]) by
        have hx : ¬ x = i := by omega
        simp [putStep, h, hx], put_false i xs _ hs.2]
      have h1 : x < i := by omega
      have h2 : ¬ i < x := by omega
      simp [h1, h2]
/-- What the document's Put tells. -/
def putL (xs : List Int) (n i : Int) (on : Bool) : List Int :=
  let s := xs.foldl (putStep i) (!on || decide (i < 0) || decide (n ≤ i), [])
  s.2 ++ if s.1 then [] else [i]
theorem put_ints {n V : Nat} {i : Int} {on : Bool} : putL (intsOf n V) n i on = intsOf n (setV n V i on) := by
  have hs := sorted_intsOf n V
  unfold putL
  by_cases hd : (!on || decide (i < 0) || decide ((n : Int) ≤ i)) = true
  · rw [hd, put_true]
    simp only [if_true, List.nil_append, List.append_nil]
    refine sorted_ext (List.Pairwise.filter _ hs) (sorted_intsOf _ _) fun x => ?_
    rw [List.mem_filter, mem_intsOf, mem_intsOf]
    rw [Bool.or_eq_true, Bool.or_eq_true, Bool.not_eq_true', decide_eq_true_iff, decide_eq_true_iff] at hd
    constructor
    · rintro ⟨⟨j, rfl, h1, h2⟩, h3⟩
      rw [Bool.not_eq_true', decide_eq_false_iff_not] at h3
      exact ⟨j, rfl, h1, by rw [setV_testBit, if_neg (fun h => h3 h.2.2)]; exact h2⟩
    · rintro ⟨j, rfl, h1, h2⟩
      rw [setV_testBit] at h2
      by_cases hc : 0 ≤ i ∧ i < n ∧ (j : Int) = i
      · rw [if_pos hc] at h2
        rcases hd with (hd | hd) | hd
        · rw [hd] at h2; cases h2
        · omega
        · omega
      · rw [if_neg hc] at h2
        refine ⟨⟨j, rfl, h1, h2⟩, ?_⟩
        rw [Bool.not_eq_true', decide_eq_false_iff_not]
        omega
  · have hd' : (!on || decide (i < 0) || decide ((n : Int) ≤ i)) = false := by simpa using hd
    rw [hd']
    have hp := put_false i (intsOf n V) [] hs
    simp only at hp ⊢
    rw [hp, List.nil_append]
    rw [Bool.or_eq_false_iff, Bool.or_eq_false_iff, Bool.not_eq_false', decide_eq_false_iff_not, decide_eq_false_iff_not] at hd'
    obtain ⟨⟨hon, h0⟩, hn⟩ := hd'
    refine sorted_ext ?_ (sorted_intsOf _ _) fun x => ?_
    · rw [List.pairwise_append, List.pairwise_append]
      refine ⟨List.Pairwise.filter _ hs, ⟨by simp, List.Pairwise.filter _ hs, ?_⟩, ?_⟩
      · intro a ha b hb
        rw [List.mem_filter] at hb
        simp at ha hb; omega
      · intro a ha b hb
        rw [List.mem_filter] at ha
        rw [List.mem_append, List.mem_filter] at hb
        simp at ha hb; omega
    · rw [List.mem_append, List.mem_append, List.mem_filter, List.mem_filter, mem_intsOf, mem_intsOf, decide_eq_true_iff, decide_eq_true_iff]
      constructor
      · rintro (⟨⟨j, rfl, h1, h2⟩, h3⟩ | h | ⟨⟨j, rfl, h1, h2⟩, h3⟩)
        · exact ⟨j, rfl, h1, by rw [setV_testBit, if_neg (by omega)]; exact h2⟩
        · simp at h
          exact ⟨x.toNat, by omega, by omega, by rw [setV_testBit, if_pos (by omega)]; exact hon⟩
        · exact ⟨j, rfl, h1, by rw [setV_testBit, if_neg (by omega)]; exact h2⟩
      · rintro ⟨j, rfl, h1, h2⟩
        rw [setV_testBit] at h2
        by_cases hc : 0 ≤ i ∧ i < n ∧ (j : Int) = i
        · exact .inr (.inl (by simp; omega))
        · rw [if_neg hc] at h2
          rcases Int.lt_trichotomy (j : Int) i with h | h | h
          · exact .inl ⟨⟨j, rfl, h1, h2⟩, h⟩
          · omega
          · exact .inr (.inr ⟨⟨j, rfl, h1, h2⟩, h⟩)
/-- The number behind Or, place by place. -/
def addV (n : Nat) (V : Nat) (zs : List Int) : Nat := zs.foldl (fun V i => setV n V i true) V
theorem addV_lt {n : Nat} : ∀ (zs : List Int) {V : Nat}, V < 2 ^ n → addV n V zs < 2 ^ n
  | [], _, h => h
  | z :: zs, V, h => by
    show addV n (setV n V z true) zs < 2 ^ n
    exact addV_lt zs (setV_lt' h)
theorem addV_testBit (n : Nat) : ∀ (zs : List Int) (V j : Nat), (addV n V zs).testBit j = (V.testBit j || (decide (j < n) && decide ((j : Int) ∈ zs)))
  | [], V, j => by simp [addV]
  | z :: zs, V, j => by
    show (addV n (setV n V z true) zs).testBit j = _
    rw [addV_testBit n zs, setV_testBit]
    by_cases hc : 0 ≤ z ∧ z < n ∧ (j : Int) = z
    · rw [if_pos hc, decide_eq_true (show j < n by omega), decide_eq_true (show (j : Int) ∈ z :: zs by rw [← hc.2.2]; simp)]
      simp
    · rw [if_neg hc]
      by_cases hj : j < n
      · have hne : (j : Int) ≠ z := by omega
        simp [hne]
      · simp [hj]
theorem or_ints {n V m O : Nat} (hO : O < 2 ^ m) : addV n V (intsOf m O) = orV n V O := by
  apply Nat.eq_of_testBit_eq
  intro j
  rw [addV_testBit, orV_testBit]
  congr 2
  rw [Bool.eq_iff_iff, decide_eq_true_iff, mem_intsOf]
  constructor
  · rintro ⟨k, e, _, h⟩
    rw [show j = k by omega]; exact h
  · intro h
    refine ⟨j, rfl, ?_, h⟩
    rcases Nat.lt_or_ge j m with h1 | h1
    · exact h1
    · rw [high_bit hO h1] at h; cases h
end Go.Proofs.YtoakpmbiplmpbaaDoor.Bits
