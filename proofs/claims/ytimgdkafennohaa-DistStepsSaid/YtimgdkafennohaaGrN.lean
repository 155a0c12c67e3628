/-
  Arcs and their numbers: what is put and dropped, as numbers; what is counted. Not a statement of the seat.
-/
import Derived.Test.YtimgdkafennohaaGrB
import Derived.Test.YtimgdkafennohaaHead17
import Derived.Test.YtimgdkafennohaaHead15
import Derived.Test.YtimgdkafennohaaGr11
import Derived.Test.YtimgdkafennohaaHead13
import Derived.Test.YtimgdkafennohaaGr10
namespace Go.Proofs.Ytimgdkafennohaa.Gr
open Go.ChangeShapes Go.WideShapes Go.ChangeAt Go.RowKit Base Ro F Dl Ln
def numA (x : Arc) : Nat := numN x.fr.toNat x.to.toNat x.kd.toNat x.lb.toNat
theorem right_b {n : Nat} (hn : n ≤ 4096) {x : Arc} (h : rightO n x) : 0 ≤ x.fr ∧ x.fr < 4096 ∧ 0 ≤ x.to ∧ x.to < 4096 ∧ 1 ≤ x.kd ∧ x.kd ≤ 3 ∧ 0 ≤ x.lb ∧ x.lb ≤ 1048575 := by
  unfold rightO at h; omega
theorem numA_lt {n : Nat} (hn : n ≤ 4096) {x : Arc} (h : rightO n x) : numA x < 70368744177664 := by
  have := right_b hn h
  unfold numA numN; omega
theorem numA_fr {n : Nat} (hn : n ≤ 4096) {x : Arc} (h : rightO n x) : frN (numA x) = x.fr.toNat := by
  have := right_b hn h
  unfold frN numA numN; omega
theorem numA_kd {n : Nat} (hn : n ≤ 4096) {x : Arc} (h : rightO n x) : kdN (numA x) = x.kd.toNat := by
  have := right_b hn h
  unfold kdN numA numN; omega
theorem arcX_numA {n : Nat} (hn : n ≤ 4096) {x : Arc} (h : rightO n x) : arcX (numA x) = x := by
  have := right_b hn h
  obtain ⟨x0, x1, x2, x3⟩ := x
  unfold arcX numA numN
  dsimp only at this ⊢
  congr 1 <;> omega
theorem numA_inj {n : Nat} (hn : n ≤ 4096) {x y : Arc} (h : rightO n x) (h' : rightO n y) (e : numA x = numA y) : x = y := by
  rw [← arcX_numA hn h, ← arcX_numA hn h', e]
theorem less_num {n : Nat} (hn : n ≤ 4096) {x y : Arc} (h : rightO n x) (h' : rightO n y) : lessA x y = decide (numA x < numA y) := by
  have h1 := right_b hn h
  have h2 := right_b hn h'
  obtain ⟨x0, x1, x2, x3⟩ := x
  obtain ⟨y0, y1, y2, y3⟩ := y
  unfold lessA numA numN
  dsimp only at h1 h2 ⊢
  repeat' split
  all_goals rw [decide_eq_decide]
  all_goals omega
/-- Arcs in the order of their numbers, all right. -/
def GoodA (n : Nat) (q : List Arc) : Prop := (∀ x ∈ q, rightO n x) ∧ (q.map numA).Pairwise (· < ·)
theorem goA_true {a : Arc} : ∀ {q : List Arc}, a ∉ q → goA a true q = q
  | [], _ => rfl
  | x :: l, h => by
    have h1 : Arc.beq x a = false := by
      cases hb : Arc.beq x a with
      | false => rfl
      | true => exact absurd ((Arc.beq_iff x a).1 hb) (fun e => h (by rw [e]; simp))
    rw [goA, h1, Bool.true_or, Bool.true_or, goA_true (fun hm => h (by simp [hm]))]
    rfl
theorem goA_perm {a : Arc} : ∀ {q : List Arc}, a ∉ q → (goA a false q).Perm (a :: q)
  | [], _ => by simp [goA]
  | x :: l, h => by
    have h1 : Arc.beq x a = false := by
      cases hb : Arc.beq x a with
      | false => rfl
      | true => exact absurd ((Arc.beq_iff x a).1 hb) (fun e => h (by rw [e]; simp))
    have h2 : a ∉ l := fun hm => h (by simp [hm])
    rw [goA, h1]
    cases hl : lessA x a with
    | true =>
      simp only [Bool.false_or, Bool.not_true, if_true, List.nil_append, Bool.false_eq_true, if_false]
      exact ((goA_perm h2).cons x).trans (List.Perm.swap a x l)
    | false =>
      simp only [Bool.false_or, Bool.not_false, Bool.false_eq_true, if_false]
      rw [goA_true h2]
      exact List.Perm.refl _
theorem goA_sorted {n : Nat} (hn : n ≤ 4096) {a : Arc} (ha : rightO n a) : ∀ {q : List Arc}, GoodA n q → a ∉ q → ((goA a false q).map numA).Pairwise (· < ·)
  | [], _, _ => by simp [goA]
  | x :: l, hq, h => by
    have h1 : Arc.beq x a = false := by
      cases hb : Arc.beq x a with
      | false => rfl
      | true => exact absurd ((Arc.beq_iff x a).1 hb) (fun e => h (by rw [e]; simp))
    have h2 : a ∉ l := fun hm => h (by simp [hm])
    have hx := hq.1 x (by simp)
    have hp := hq.2
    rw [List.map_cons, List.pairwise_cons] at hp
    have hl' : GoodA n l := ⟨fun y hy => hq.1 y (by simp [hy]), hp.2⟩
    have hne : numA x ≠ numA a := fun e => h (by rw [numA_inj hn hx ha e]; simp)
    rw [goA, h1]
    cases hl : lessA x a with
    | true =>
      rw [less_num hn hx ha, decide_eq_true_iff] at hl
      simp only [Bool.false_or, Bool.not_true, if_true, List.nil_append, Bool.false_eq_true, if_false, List.cons_append, List.map_cons, List.pairwise_cons]
      refine ⟨fun m hm => ?_, goA_sorted hn ha hl' h2⟩
      rw [List.mem_map] at hm
      obtain ⟨y, hy, rfl⟩ := hm
      rcases List.mem_cons.1 ((goA_perm h2).mem_iff.1 hy) with rfl | hy
      · exact hl
      · exact hp.1 _ (List.mem_map_of_mem hy)
    | false =>
      rw [less_num hn hx ha, decide_eq_false_iff_not] at hl
      simp only [Bool.false_or, Bool.not_false, Bool.false_eq_true, if_false]
      rw [goA_true h2]
      simp only [List.cons_append, List.nil_append, List.map_cons, List.pairwise_cons]
      refine ⟨fun m hm => ?_, hp⟩
      rcases List.mem_cons.1 hm with rfl | hm
      · omega
      · have := hp.1 m hm; omega
theorem nat_ext : ∀ {l m : List Nat}, l.Pairwise (· < ·) → m.Pairwise (· < ·) → (∀ x, x ∈ l ↔ x ∈ m) → l = m
  | [], [], _, _, _ => rfl
  | [], y :: m, _, _, h => by have := (h y).2 List.mem_cons_self; cases this
  | x :: l, [], _, _, h => by have := (h x).1 List.mem_cons_self; cases this
  | x :: l, y :: m, hl, hm, h => by
    obtain ⟨hl1, hl2⟩ := List.pairwise_cons.1 hl
    obtain ⟨hm1, hm2⟩ := List.pairwise_cons.1 hm
    have hxy : x = y := by
      rcases List.mem_cons.1 ((h x).1 List.mem_cons_self) with e | e
      · exact e
      · rcases List.mem_cons.1 ((h y).2 List.mem_cons_self) with e' | e'
        · exact e'.symm
        · have := hl1 y e'
          have := hm1 x e
          omega
    subst hxy
    rw [nat_ext hl2 hm2 fun z => ?_]
    constructor
    · intro hz
      rcases List.mem_cons.1 ((h z).1 (List.mem_cons_of_mem _ hz)) with e | e
      · have := hl1 z hz; omega
      · exact e
    · intro hz
      rcases List.mem_cons.1 ((h z).2 (List.mem_cons_of_mem _ hz)) with e | e
      · have := hm1 z hz; omega
      · exact e
theorem num_in {n : Nat} (hn : n ≤ 4096) {q : List Arc} (hq : GoodA n q) {a : Arc} (ha : rightO n a) : numA a ∈ q.map numA ↔ a ∈ q := by
  rw [List.mem_map]
  constructor
  · rintro ⟨x, hx, e⟩
    exact numA_inj hn (hq.1 x hx) ha e ▸ hx
  · intro h
    exact ⟨a, h, rfl⟩
theorem put_num {n : Nat} (hn : n ≤ 4096) {q : List Arc} (hq : GoodA n q) {a : Arc} (ha : rightO n a) (h : a ∉ q) : insX (q.map numA) (numA a) = (goA a false q).map numA := by
  have hx : numA a ∉ q.map numA := fun e => h ((num_in hn hq ha).1 e)
  refine nat_ext (up_pw.1 (insX_up (up_pw.2 hq.2) hx)) (goA_sorted hn ha hq h) fun x => ?_
  rw [insX_mem, List.mem_map, List.mem_map]
  constructor
  · rintro (rfl | ⟨y, hy, rfl⟩)
    · exact ⟨a, (goA_perm h).mem_iff.2 (by simp), rfl⟩
    · exact ⟨y, (goA_perm h).mem_iff.2 (by simp [hy]), rfl⟩
  · rintro ⟨y, hy, rfl⟩
    rcases List.mem_cons.1 ((goA_perm h).mem_iff.1 hy) with rfl | hy
    · exact .inl rfl
    · exact .inr ⟨y, hy, rfl⟩
theorem put_good {n : Nat} (hn : n ≤ 4096) {q : List Arc} (hq : GoodA n q) {a : Arc} (ha : rightO n a) (h : a ∉ q) : GoodA n (goA a false q) :=
  ⟨fun x hx => by
    rcases List.mem_cons.1 ((goA_perm h).mem_iff.1 hx) with rfl | hx
    · exact ha
    · exact hq.1 x hx, goA_sorted hn ha hq h⟩
def dropA (q : List Arc) (a : Arc) : List Arc := q.filter fun x => !Arc.beq x a
theorem dropA_mem {q : List Arc} {a x : Arc} : x ∈ dropA q a ↔ x ∈ q ∧ x ≠ a := by
  unfold dropA
  rw [List.mem_filter, Bool.not_eq_true', ← Bool.not_eq_true, Arc.beq_iff]
theorem drop_good {n : Nat} {q : List Arc} (hq : GoodA n q) (a : Arc) : GoodA n (dropA q a) :=
  ⟨fun x hx => hq.1 x (dropA_mem.1 hx).1, hq.2.sublist (List.Sublist.map _ List.filter_sublist)⟩
theorem drop_num {n : Nat} (hn : n ≤ 4096) {q : List Arc} (hq : GoodA n q) {a : Arc} (ha : rightO n a) (h : a ∈ q) : delX (q.map numA) (numA a) = (dropA q a).map numA := by
  have hx := (num_in hn hq ha).2 h
  refine nat_ext (up_pw.1 (delX_up (up_pw.2 hq.2) _)) (drop_good hq a).2 fun x => ?_
  rw [delX_mem (up_pw.2 hq.2) hx, List.mem_map, List.mem_map]
  constructor
  · rintro ⟨⟨y, hy, rfl⟩, hne⟩
    exact ⟨y, dropA_mem.2 ⟨hy, fun e => hne (by rw [e])⟩, rfl⟩
  · rintro ⟨y, hy, rfl⟩
    obtain ⟨h1, h2⟩ := dropA_mem.1 hy
    exact ⟨⟨y, h1, rfl⟩, fun e => h2 (numA_inj hn (hq.1 y h1) ha e)⟩
theorem drop_none_ {q : List Arc} {a : Arc} (h : a ∉ q) : dropA q a = q := by
  unfold dropA
  rw [List.filter_eq_self]
  intro x hx
  rw [Bool.not_eq_true', ← Bool.not_eq_true, Arc.beq_iff]
  exact fun e => h (e ▸ hx)
theorem drop_perm {n : Nat} {q : List Arc} (hq : GoodA n q) {a : Arc} (h : a ∈ q) : (a :: dropA q a).Perm q := by
  have hnd : q.Nodup := by
    have := hq.2
    rw [List.pairwise_map] at this
    exact this.imp (fun {x y} hxy e => by rw [e] at hxy; exact Nat.lt_irrefl _ hxy)
  have hnd2 : (a :: dropA q a).Nodup := by
    rw [List.nodup_cons]
    exact ⟨fun hm => (dropA_mem.1 hm).2 rfl, hnd.sublist List.filter_sublist⟩
  rw [List.perm_ext_iff_of_nodup hnd2 hnd]
  intro x
  rw [List.mem_cons, dropA_mem]
  constructor
  · rintro (rfl | h1)
    · exact h
    · exact h1.1
  · intro hx
    by_cases e : x = a
    · exact .inl e
    · exact .inr ⟨hx, e⟩
/-- How many arcs of a kind lead from a node to another one (true), or come to it from there (false). -/
def isE (s : Bool) (a c k : Nat) (x : Arc) : Bool := if s then decide (x.fr = a ∧ x.to = c ∧ x.kd = k) else decide (x.to = a ∧ x.fr = c ∧ x.kd = k)
def cntOf (q : List Arc) : Bool → Nat → Nat → Nat → Int := fun s a c k => ((q.countP (isE s a c k) : Nat) : Int)
theorem cnt_perm {p q : List Arc} (h : p.Perm q) : cntOf p = cntOf q := by
  funext s a c k
  unfold cntOf
  rw [h.countP_eq]
theorem cnt_cons {n : Nat} {x : Arc} (hx : rightO n x) (q : List Arc) : cntOf (x :: q) = cntA (cntOf q) x.fr.toNat x.to.toNat x.kd.toNat 1 := by
  unfold rightO at hx
  have e1 : ∀ a : Nat, x.fr = (a : Int) ↔ a = x.fr.toNat := fun a => by omega
  have e2 : ∀ a : Nat, x.to = (a : Int) ↔ a = x.to.toNat := fun a => by omega
  have e3 : ∀ a : Nat, x.kd = (a : Int) ↔ a = x.kd.toNat := fun a => by omega
  funext s a c k
  unfold cntA updC upd cntOf
  rw [List.countP_cons]
  cases s
  · simp only [isE, Bool.false_eq_true, if_false, decide_eq_true_eq, e1, e2, e3]
    by_cases h1 : a = x.to.toNat
    · by_cases h2 : c = x.fr.toNat ∧ k = x.kd.toNat
      · simp [h1, h2]
      · rw [if_neg (fun h => h2 h.2)]
        simp [h1, h2]
    · rw [if_neg (fun h => h1 h.1)]
      simp [h1]
  · simp only [isE, if_true, decide_eq_true_eq, e1, e2, e3]
    by_cases h1 : a = x.fr.toNat
    · by_cases h2 : c = x.to.toNat ∧ k = x.kd.toNat
      · simp [h1, h2]
      · rw [if_neg (fun h => h2 h.2)]
        simp [h1, h2]
    · rw [if_neg (fun h => h1 h.1)]
      simp [h1]
theorem cntA_back (cnt : Bool → Nat → Nat → Nat → Int) (f t k : Nat) : cntA (cntA cnt f t k 1) f t k (-1) = cnt := by
  funext s a c j
  unfold cntA updC upd
  cases s
  · by_cases h1 : a = t
    · by_cases h2 : c = f ∧ j = k
      · simp [h1, h2]; omega
      · simp [h1, h2]
    · simp [h1]
  · by_cases h1 : a = f
    · by_cases h2 : c = t ∧ j = k
      · simp [h1, h2]; omega
      · simp [h1, h2]
    · simp [h1]
theorem cnt_drop {n : Nat} {q : List Arc} (hq : GoodA n q) {a : Arc} (ha : rightO n a) (h : a ∈ q) : cntA (cntOf q) a.fr.toNat a.to.toNat a.kd.toNat (-1) = cntOf (dropA q a) := by
  rw [← cnt_perm (drop_perm hq h), cnt_cons ha, cntA_back]
theorem cnt_put {n : Nat} {q : List Arc} {a : Arc} (ha : rightO n a) (h : a ∉ q) : cntA (cntOf q) a.fr.toNat a.to.toNat a.kd.toNat 1 = cntOf (goA a false q) := by
  rw [cnt_perm (goA_perm h), cnt_cons ha]
theorem cnt_pos {q : List Arc} {a : Arc} {n : Nat} (ha : rightO n a) (h : a ∈ q) : 0 < cntOf q true a.fr.toNat a.to.toNat a.kd.toNat ∧ 0 < cntOf q false a.to.toNat a.fr.toNat a.kd.toNat := by
  unfold rightO at ha
  unfold cntOf
  have h1 : 0 < q.countP (isE true a.fr.toNat a.to.toNat a.kd.toNat) := List.countP_pos_iff.2 ⟨a, h, by simp only [isE, if_true, decide_eq_true_eq]; omega⟩
  have h2 : 0 < q.countP (isE false a.to.toNat a.fr.toNat a.kd.toNat) := List.countP_pos_iff.2 ⟨a, h, by simp only [isE, Bool.false_eq_true, if_false, decide_eq_true_eq]; omega⟩
  omega
theorem cnt_le (q : List Arc) (s : Bool) (a c k : Nat) : cntOf q s a c k ≤ q.length := by
  unfold cntOf
  have := List.countP_le_length (p := isE s a c k) (l := q)
  omega
end Go.Proofs.Ytimgdkafennohaa.Gr
