/-
  Contracts of small functions, several texts laid into one. Not a statement of the seat.
-/
import Derived.Test.YtakgepdlninnhaaDoorGrB
import Derived.Test.YtakgepdlninnhaaDoorHead13
import Derived.Test.YtakgepdlninnhaaDoorHead10
import Derived.Test.YtakgepdlninnhaaDoorHead30
import Derived.Test.YtakgepdlninnhaaDoorHead9
import Derived.Test.YtakgepdlninnhaaDoorHead3
namespace Go.Proofs.YtakgepdlninnhaaDoor.Gr
open Go.ChangeShapes Go.WideShapes Go.ChangeAt Go.RowKit Base Ro F Dl Ln
def numA (x : Arc) : Nat := numN x.fr.toNat x.to.toNat x.kd.toNat x.lb.toNat
theorem right_b {n : Nat} (hn : n ≤ 4096) {x : Arc} (h : rightO n x) : 0 ≤ x.fr ∧ x.fr < 4096 ∧ 0 ≤ x.to ∧ x.to < 4096 ∧ 1 ≤ x.kd ∧ x.kd ≤ 3 ∧ 0 ≤ x.lb ∧ x.lb ≤ 1048575 := by
  unfold rightO at h; omega
theorem numA_lt {n : Nat} (hn : n ≤ 4096) {x : Arc} (h : rightO n x) : numA x < 70368744177664 := by
  have := right_b hn h
  unfold numA numN; omega
theorem numA_fr {n : Nat} (hn : n ≤ 4096) {x : Arc} (h : rightO n x) : frN (numA x) = x.fr.toNat := by
  have := right_b hn h
  unfold frN numA numN; omega
theorem numA_kd {n : Nat} (hn : n ≤ 4096) {x : Arc} (h : rightO n x) : kdN (numA x) = x.kd.toNat := by
  have := right_b hn h
  unfold kdN numA numN; omega
theorem arcX_numA {n : Nat} (hn : n ≤ 4096) {x : Arc} (h : rightO n x) : arcX (numA x) = x := by
  have := right_b hn h
  obtain ⟨x0, x1, x2, x3⟩ := x
  unfold arcX numA numN
  dsimp only at this ⊢
  congr 1 <;> omega
theorem numA_inj {n : Nat} (hn : n ≤ 4096) {x y : Arc} (h : rightO n x) (h' : rightO n y) (e : numA x = numA y) : x = y := by
  rw [← arcX_numA hn h, ← arcX_numA hn h', e]
theorem less_num {n : Nat} (hn : n ≤ 4096) {x y : Arc} (h : rightO n x) (h' : rightO n y) : lessA x y = decide (numA x < numA y) := by
  have h1 := right_b hn h
  have h2 := right_b hn h'
  obtain ⟨x0, x1, x2, x3⟩ := x
  obtain ⟨y0, y1, y2, y3⟩ := y
  unfold lessA numA numN
  dsimp only at h1 h2 ⊢
  repeat' split
  all_goals rw [decide_eq_decide]
  all_goals omega
/-- Arcs in the order of their numbers, all right. -/
def GoodA (n : Nat) (q : List Arc) : Prop := (∀ x ∈ q, rightO n x) ∧ (q.map numA).Pairwise (· < ·)
theorem goA_true {a : Arc} : ∀ {q : List Arc}, a ∉ q → goA a true q = q
  | [], _ => rfl
  | x :: l, h => by
    have h1 : Arc.beq x a = false := by
      cases hb : Arc.beq x a with
      | false => rfl
      | true => exact absurd ((Arc.beq_iff x a).1 hb) (fun e => h (by rw [e]; simp))
    rw [goA, h1, Bool.true_or, Bool.true_or, goA_true (fun hm => h (by simp [hm]))]
    rfl
theorem goA_perm {a : Arc} : ∀ {q : List Arc}, a ∉ q → (goA a false q).Perm (a :: q)
  | [], _ => by simp [goA]
  | x :: l, h => by
    have h1 : Arc.beq x a = false := by
      cases hb : Arc.beq x a with
      | false => rfl
      | true => exact absurd ((Arc.beq_iff x a).1 hb) (fun e => h (by rw [e]; simp))
    have h2 : a ∉ l := fun hm => h (by simp [hm])
    rw [goA, h1]
    cases hl : lessA x a with
    | true =>
      simp only [Bool.false_or, Bool.not_true, if_true, List.nil_append, Bool.false_eq_true, if_false]
      exact ((goA_perm h2).cons x).trans (List.Perm.swap a x l)
    | false =>
      simp only [Bool.false_or, Bool.not_false, Bool.false_eq_true, if_false]
      rw [goA_true h2]
      exact List.Perm.refl _
theorem goA_sorted {n : Nat} (hn : n ≤ 4096) {a : Arc} (ha : rightO n a) : ∀ {q : List Arc}, GoodA n q → a ∉ q → ((goA a false q).map numA).Pairwise (· < ·)
  | [], _, _ => by simp [goA]
  | x :: l, hq, h => by
    have h1 : Arc.beq x a = false := by
      cases hb : Arc.beq x a with
      | false => rfl
      | true => exact absurd ((Arc.beq_iff x a).1 hb) (fun e => h (by rw [e]; simp))
    have h2 : a ∉ l := fun hm => h (by simp [hm])
    have hx := hq.1 x (by simp)
    have hp := hq.2
    rw [List.map_cons, List.pairwise_cons] at hp
    have hl' : GoodA n l := ⟨fun y hy => hq.1 y (by simp [hy]), hp.2⟩
    have hne : numA x ≠ numA a := fun e => h (by rw [numA_inj hn hx ha e]; simp)
    rw [goA, h1]
    cases hl : lessA x a with
    | true =>
      rw [less_num hn hx ha, decide_eq_true_iff] at hl
      simp only [Bool.false_or, Bool.not_true, if_true, List.nil_append, Bool.false_eq_true, if_false, List.cons_append, List.map_cons, List.pairwise_cons]
      refine ⟨fun m hm => ?_, goA_sorted hn ha hl' h2⟩
      rw [List.mem_map] at hm
      obtain ⟨y, hy, rfl⟩ := hm
      rcases List.mem_cons.1 ((goA_perm h2).mem_iff.1 hy) with rfl | hy
      · exact hl
      · exact hp.1 _ (List.mem_map_of_mem hy)
    | false =>
      rw [less_num hn hx ha, decide_eq_false_iff_not] at hl
      simp only [Bool.false_or, Bool.not_false, Bool.false_eq_true, if_false]
      rw [goA_true h2]
      simp only [List.cons_append, List.nil_append, List.map_cons, List.pairwise_cons]
      refine ⟨fun m hm => ?_, hp⟩
      rcases List.mem_cons.1 hm with rfl | hm
      · omega
      · have := hp.1 m hm; omega
theorem nat_ext : ∀ {l m : List Nat}, l.Pairwise (· < ·) → m.Pairwise (· < ·) → (∀ x, x ∈ l ↔ x ∈ m) → l = m
  | [], [], _, _, _ => rfl
  | [], y :: m, _, _, h => by have := (h y).2 List.mem_cons_self; cases this
  | x :: l, [], _, _, h => by have := (h x).1 List.mem_cons_self; cases this
  | x :: l, y :: m, hl, hm, h => by
    obtain ⟨hl1, hl2⟩ := List.pairwise_cons.1 hl
    obtain ⟨hm1, hm2⟩ := List.pairwise_cons.1 hm
    have hxy : x = y := by
      rcases List.mem_cons.1 ((h x).1 List.mem_cons_self) with e | e
      · exact e
      · rcases List.mem_cons.1 ((h y).2 List.mem_cons_self) with e' | e'
        · exact e'.symm
        · have := hl1 y e'
          have := hm1 x e
          omega
    subst hxy
    rw [nat_ext hl2 hm2 fun z => ?_]
    constructor
    · intro hz
      rcases List.mem_cons.1 ((h z).1 (List.mem_cons_of_mem _ hz)) with e | e
      · have := hl1 z hz; omega
      · exact e
    · intro hz
      rcases List.mem_cons.1 ((h z).2 (List.mem_cons_of_mem _ hz)) with e | e
      · have := hm1 z hz; omega
      · exact e
theorem num_in {n : Nat} (hn : n ≤ 4096) {q : List Arc} (hq : GoodA n q) {a : Arc} (ha : rightO n a) : numA a ∈ q.map numA ↔ a ∈ q := by
  rw [List.mem_map]
  constructor
  · rintro ⟨x, hx, e⟩
    exact numA_inj hn (hq.1 x hx) ha e ▸ hx
  · intro h
    exact ⟨a, h, rfl⟩
theorem put_num {n : Nat} (hn : n ≤ 4096) {q : List Arc} (hq : GoodA n q) {a : Arc} (ha : rightO n a) (h : a ∉ q) : insX (q.map numA) (numA a) = (goA a false q).map numA := by
  have hx : numA a ∉ q.map numA := fun e => h ((num_in hn hq ha).1 e)
  refine nat_ext (up_pw.1 (insX_up (up_pw.2 hq.2) hx)) (goA_sorted hn ha hq h) fun x => ?_
  rw [insX_mem, List.mem_map, List.mem_map]
  constructor
  · rintro (rfl | ⟨y, hy, rfl⟩)
    · exact ⟨a, (goA_perm h).mem_iff.2 (by simp), rfl⟩
    · exact ⟨y, (goA_perm h).mem_iff.2 (by simp [hy]), rfl⟩
  · rintro ⟨y, hy, rfl⟩
    rcases List.mem_cons.1 ((goA_perm h).mem_iff.1 hy) with rfl | hy
    · exact .inl rfl
    · exact .inr ⟨y, hy, rfl⟩
theorem put_good {n : Nat} (hn : n ≤ 4096) {q : List Arc} (hq : GoodA n q) {a : Arc} (ha : rightO n a) (h : a ∉ q) : GoodA n (goA a false q) :=
  ⟨fun x hx => by
    rcases List.mem_cons.1 ((goA_perm h).mem_iff.1 hx) with rfl | hx
    · exact ha
    · exact hq.1 x hx, goA_sorted hn ha hq h⟩
def dropA (q : List Arc) (a : Arc) : List Arc := q.filter fun x => !Arc.beq x a
theorem dropA_mem {q : List Arc} {a x : Arc} : x ∈ dropA q a ↔ x ∈ q ∧ x ≠ a := by
  unfold dropA
  rw [List.mem_filter, Bool.not_eq_true', ← Bool.not_eq_true, Arc.beq_iff]
theorem drop_good {n : Nat} {q : List Arc} (hq : GoodA n q) (a : Arc) : GoodA n (dropA q a) :=
  ⟨fun x hx => hq.1 x (dropA_mem.1 hx).1, hq.2.sublist (List.Sublist.map _ List.filter_sublist)⟩
theorem drop_num {n : Nat} (hn : n ≤ 4096) {q : List Arc} (hq : GoodA n q) {a : Arc} (ha : rightO n a) (h : a ∈ q) : delX (q.map numA) (numA a) = (dropA q a).map numA := by
  have hx := (num_in hn hq ha).2 h
  refine nat_ext (up_pw.1 (delX_up (up_pw.2 hq.2) _)) (drop_good hq a).2 fun x => ?_
  rw [delX_mem (up_pw.2 hq.2) hx, List.mem_map, List.mem_map]
  constructor
  · rintro ⟨⟨y, hy, rfl⟩, hne⟩
    exact ⟨y, dropA_mem.2 ⟨hy, fun e => hne (by rw [e])⟩, rfl⟩
  · rintro ⟨y, hy, rfl⟩
    obtain ⟨h1, h2⟩ := dropA_mem.1 hy
    exact ⟨⟨y, h1, rfl⟩, fun e => h2 (numA_inj hn (hq.1 y h1) ha e)⟩
theorem drop_none_ {q : List Arc} {a : Arc} (h : a ∉ q) : dropA q a = q := by
  unfold dropA
  rw [List.filter_eq_self]
  intro x hx
  rw [Bool.not_eq_true', ← Bool.not_eq_true, Arc.beq_iff]
  exact fun e => h (e ▸ hx)
theorem drop_perm {n : Nat} {q : List Arc} (hq : GoodA n q) {a : Arc} (h : a ∈ q) : (a :: dropA q a).Perm q := by
  have hnd : q.Nodup := by
    have := hq.2
    rw [List.pairwise_map] at this
    exact this.imp (fun {x y} hxy e => by rw [e] at hxy; exact Nat.lt_irrefl _ hxy)
  have hnd2 : (a :: dropA q a).Nodup := by
    rw [List.nodup_cons]
    exact ⟨fun hm => (dropA_mem.1 hm).2 rfl, hnd.sublist List.filter_sublist⟩
  rw [List.perm_ext_iff_of_nodup hnd2 hnd]
  intro x
  rw [List.mem_cons, dropA_mem]
  constructor
  · rintro (rfl | h1)
    · exact h
    · exact h1.1
  · intro hx
    by_cases e : x = a
    · exact .inl e
    · exact .inr ⟨hx, e⟩
/-- How many arcs of a kind lead from a node to another one (true), or come to it from there (false). -/
def isE (s : Bool) (a c k : Nat) (x : Arc) : Bool := if s then decide (x.fr = a ∧ x.to = c ∧ x.kd = k) else decide (x.to = a ∧ x.fr = c ∧ x.kd = k)
def cntOf (q : List Arc) : Bool → Nat → Nat → Nat → Int := fun s a c k => ((q.countP (isE s a c k) : Nat) : Int)
theorem cnt_perm {p q : List Arc} (h : p.Perm q) : cntOf p = cntOf q := by
  funext s a c k
  unfold cntOf
  rw [h.countP_eq]
theorem cnt_cons {n : Nat} {x : Arc} (hx : rightO n x) (q : List Arc) : cntOf (x :: q) = cntA (cntOf q) x.fr.toNat x.to.toNat x.kd.toNat 1 := by
  unfold rightO at hx
  have e1 : ∀ a : Nat, x.fr = (a : Int) ↔ a = x.fr.toNat := fun a => by omega
  have e2 : ∀ a : Nat, x.to = (a : Int) ↔ a = x.to.toNat := fun a => by omega
  have e3 : ∀ a : Nat, x.kd = (a : Int) ↔ a = x.kd.toNat := fun a => by omega
  funext s a c k
  unfold cntA updC upd cntOf
  rw [List.countP_cons]
  cases s
  · simp only [isE, Bool.false_eq_true, if_false, decide_eq_true_eq, e1, e2, e3]
    by_cases h1 : a = x.to.toNat
    · by_cases h2 : c = x.fr.toNat ∧ k = x.kd.toNat
      · simp [h1, h2]
      · rw [if_neg (fun h => h2 h.2)]
        simp [h1, h2]
    · rw [if_neg (fun h => h1 h.1)]
      simp [h1]
  · simp only [isE, if_true, decide_eq_true_eq, e1, e2, e3]
    by_cases h1 : a = x.fr.toNat
    · by_cases h2 : c = x.to.toNat ∧ k = x.kd.toNat
      · simp [h1, h2]
      · rw [if_neg (fun h => h2 h.2)]
        simp [h1, h2]
    · rw [if_neg (fun h => h1 h.1)]
      simp [h1]
theorem cntA_back (cnt : Bool → Nat → Nat → Nat → Int) (f t k : Nat) : cntA (cntA cnt f t k 1) f t k (-1) = cnt := by
  funext s a c j
  unfold cntA updC upd
  cases s
  · by_cases h1 : a = t
    · by_cases h2 : c = f ∧ j = k
      · simp [h1, h2]; omega
      · simp [h1, h2]
    · simp [h1]
  · by_cases h1 : a = f
    · by_cases h2 : c = t ∧ j = k
      · simp [h1, h2]; omega
      · simp [h1, h2]
    · simp [h1]
theorem cnt_drop {n : Nat} {q : List Arc} (hq : GoodA n q) {a : Arc} (ha : rightO n a) (h : a ∈ q) : cntA (cntOf q) a.fr.toNat a.to.toNat a.kd.toNat (-1) = cntOf (dropA q a) := by
  rw [← cnt_perm (drop_perm hq h), cnt_cons ha, cntA_back]
theorem cnt_put {n : Nat} {q : List Arc} {a : Arc} (ha : rightO n a) (h : a ∉ q) : cntA (cntOf q) a.fr.toNat a.to.toNat a.kd.toNat 1 = cntOf (goA a false q) := by
  rw [cnt_perm (goA_perm h), cnt_cons ha]
theorem cnt_pos {q : List Arc} {a : Arc} {n : Nat} (ha : rightO n a) (h : a ∈ q) : 0 < cntOf q true a.fr.toNat a.to.toNat a.kd.toNat ∧ 0 < cntOf q false a.to.toNat a.fr.toNat a.kd.toNat := by
  unfold rightO at ha
  unfold cntOf
  have h1 : 0 < q.countP (isE true a.fr.toNat a.to.toNat a.kd.toNat) := List.countP_pos_iff.2 ⟨a, h, by simp only [isE, if_true, decide_eq_true_eq]; omega⟩
  have h2 : 0 < q.countP (isE false a.to.toNat a.fr.toNat a.kd.toNat) := List.countP_pos_iff.2 ⟨a, h, by simp only [isE, Bool.false_eq_true, if_false, decide_eq_true_eq]; omega⟩
  omega
theorem cnt_le (q : List Arc) (s : Bool) (a c k : Nat) : cntOf q s a c k ≤ q.length := by
  unfold cntOf
  have := List.countP_le_length (p := isE s a c k) (l := q)
  omega
end Go.Proofs.YtakgepdlninnhaaDoor.Gr
namespace Go.Proofs.YtakgepdlninnhaaDoor.Gr
open Go.ChangeShapes Go.WideShapes Go.ChangeAt Go.RowKit Base Ro F Dl Ln Rf
def ofA (q : List Arc) (mask : Int) : List Arc := q.filter fun x => rbit mask x.kd
theorem sel_eq {n : Nat} (hn : n ≤ 4096) {q : List Arc} (hq : GoodA n q) (p : Nat → Bool) (r : Arc → Bool) (h : ∀ x ∈ q, p (numA x) = r x) : ((q.map numA).filter p).map arcX = q.filter r := by
  rw [List.filter_map, List.map_map]
  have e : q.filter (p ∘ numA) = q.filter r := List.filter_congr fun x hx => h x hx
  rw [e]
  conv => rhs; rw [← List.map_id (q.filter r)]
  refine List.map_congr_left fun x hx => ?_
  exact arcX_numA hn (hq.1 x (List.mem_filter.1 hx).1)
theorem kd_bit {n : Nat} (hn : n ≤ 4096) {x : Arc} (hx : rightO n x) (mask : Int) : 1 ≤ kdN (numA x) ∧ kdN (numA x) < 4 ∧ mbit mask (kdN (numA x)) = rbit mask x.kd := by
  have h := right_b hn hx
  rw [numA_kd hn hx, mbit_rbit mask _ (by omega), Int.toNat_of_nonneg (by omega)]
  exact ⟨by omega, by omega, rfl⟩
theorem arcs_eq {n : Nat} (hn : n ≤ 4096) {q : List Arc} (hq : GoodA n q) (mask : Int) : arcsT (q.map numA) mask n = ofA q mask := by
  rw [arcsT_filter hq.2]
  refine sel_eq hn hq _ _ fun x hx => ?_
  obtain ⟨h1, _, h3⟩ := kd_bit hn (hq.1 x hx) mask
  have hr := hq.1 x hx
  rw [h3, numA_fr hn hr, decide_eq_true, Bool.true_and]
  unfold rightO at hr
  exact ⟨by omega, h1⟩
theorem outs_eq {n : Nat} (hn : n ≤ 4096) {q : List Arc} (hq : GoodA n q) (mask : Int) (a : Nat) : outT (q.map numA) a mask 4 = (ofA q mask).filter fun x => x.fr == (a : Int) := by
  rw [outT_filter hq.2 a mask 4 (by omega)]
  unfold ofA
  rw [List.filter_filter]
  refine sel_eq hn hq _ _ fun x hx => ?_
  obtain ⟨h1, h2, h3⟩ := kd_bit hn (hq.1 x hx) mask
  have hr := hq.1 x hx
  have hb := right_b hn hr
  rw [h3, numA_fr hn hr]
  congr 1
  rw [Bool.eq_iff_iff, decide_eq_true_iff, beq_iff_eq]
  omega
theorem ofA_good {n : Nat} {q : List Arc} (hq : GoodA n q) (mask : Int) : ∀ x ∈ ofA q mask, rightO n x := fun x hx => hq.1 x (List.mem_filter.1 hx).1
/-- A node out of sight has none. -/
theorem outs_none {n : Nat} {l : List Arc} (h : ∀ x ∈ l, rightO n x) {a : Int} (ha : ¬ (0 ≤ a ∧ a < (n : Int))) : (l.filter fun x => x.fr == a) = [] ∧ (l.filter fun x => x.to == a) = [] := by
  constructor <;>
  · rw [List.filter_eq_nil_iff]
    intro x hx
    have := h x hx
    unfold rightO at this
    rw [beq_iff_eq]
    intro e
    omega
theorem sideO_none {n : Nat} {l : List Arc} (h : ∀ x ∈ l, rightO n x) {a : Int} (ha : ¬ (0 ≤ a ∧ a < (n : Int))) (back : Bool) : sideO l a back = [] := by
  unfold sideO
  rw [(outs_none h ha).1, (outs_none h ha).2]
  cases back <;> rfl
theorem canK_mem_iff (cnt : Nat → Nat → Int) (l : List Nat) (x : Lk) : x ∈ canK cnt l ↔ ∃ c, c ∈ l ∧ bitsOf (cnt c) ≠ 0 ∧ x = lnk cnt c := by
  unfold canK
  rw [List.mem_flatMap]
  constructor
  · rintro ⟨c, hc, hx⟩
    unfold entK at hx
    split at hx
    · cases hx
    · rename_i hne
      exact ⟨c, hc, hne, by simpa using hx⟩
  · rintro ⟨c, hc, hne, rfl⟩
    exact ⟨c, hc, by unfold entK; rw [if_neg hne]; simp⟩
theorem pw_map_filter {ks : List Lk} {p : Lk → Bool} (h : ks.Pairwise (fun x y => x.nd < y.nd)) : Rises ((ks.filter p).map (·.nd)) := by
  unfold Rises
  rw [List.pairwise_map]
  exact h.sublist List.filter_sublist
theorem bits_and_zero (mask : Int) : bits .and .i64 0 mask = 0 := by
  rw [and_zero]
  simp
/-- Who is on a side, by counts. -/
theorem side_mem (cnt : Bool → Nat → Nat → Nat → Int) (s : Bool) (n a : Nat) (mask : Int) (z : Int) : z ∈ sideL cnt s n a mask ↔ ∃ c k : Nat, c < n ∧ k < 4 ∧ z = (c : Int) ∧ 0 < cnt s a c k ∧ rbit mask (k : Int) = true := by
  unfold sideL ofK
  rw [List.mem_map]
  constructor
  · rintro ⟨x, hx, rfl⟩
    rw [List.mem_filter, canK_mem_iff] at hx
    obtain ⟨⟨c, hc, _, rfl⟩, hk⟩ := hx
    rw [List.mem_range] at hc
    unfold keepK at hk
    have hk : (!decide (bits .and .i64 (bitsOf (cnt s a c)) mask = 0)) = true := hk
    have hne : bits .and .i64 (bitsOf (cnt s a c)) mask ≠ 0 := by rw [Bool.not_eq_true', decide_eq_false_iff_not] at hk; exact hk
    obtain ⟨k, h1, h2, h3⟩ := (keep_iff (cnt s a c) mask).1 hne
    exact ⟨c, k, hc, h1, rfl, h2, h3⟩
  · rintro ⟨c, k, hc, hk, rfl, h2, h3⟩
    have hne := (keep_iff (cnt s a c) mask).2 ⟨k, hk, h2, h3⟩
    refine ⟨lnk (cnt s a) c, ?_, rfl⟩
    rw [List.mem_filter, canK_mem_iff]
    refine ⟨⟨c, List.mem_range.2 hc, fun e => hne (by rw [e]; exact bits_and_zero mask), rfl⟩, ?_⟩
    show (!decide (bits .and .i64 (bitsOf (cnt s a c)) mask = 0)) = true
    rw [Bool.not_eq_true', decide_eq_false_iff_not]
    exact hne
theorem side_rises (cnt : Bool → Nat → Nat → Nat → Int) (s : Bool) (n a : Nat) (mask : Int) : Rises (sideL cnt s n a mask) := pw_map_filter (canK_pw _ _ (range_lt n))
theorem sides_eq {n : Nat} {q : List Arc} (hq : GoodA n q) (mask : Int) (s : Bool) (a : Nat) : sideL (cntOf q) s n a mask = sideO (ofA q mask) (a : Int) (!s) := by
  have hr : Rises (sideO (ofA q mask) (a : Int) (!s)) := by unfold sideO; cases s <;> exact keysL_rises _
  refine rises_ext (side_rises _ _ _ _ _) hr fun z => ?_
  rw [side_mem]
  cases s
  · show _ ↔ z ∈ keysL _
    rw [mem_keysL, List.mem_map]
    constructor
    · rintro ⟨c, k, hc, hk, rfl, h1, h2⟩
      unfold cntOf at h1
      have h3 : 0 < q.countP (isE false a c k) := by omega
      obtain ⟨x, hx, he⟩ := List.countP_pos_iff.1 h3
      simp only [isE, Bool.false_eq_true, if_false, decide_eq_true_eq] at he
      refine ⟨x, ?_, he.2.1⟩
      unfold ofA
      rw [List.mem_filter, List.mem_filter, beq_iff_eq]
      exact ⟨⟨hx, by rw [he.2.2]; exact h2⟩, he.1⟩
    · rintro ⟨x, hx, rfl⟩
      unfold ofA at hx
      rw [List.mem_filter, List.mem_filter, beq_iff_eq] at hx
      obtain ⟨⟨hx, hb⟩, he⟩ := hx
      have hxr := hq.1 x hx
      unfold rightO at hxr
      refine ⟨x.fr.toNat, x.kd.toNat, by omega, by omega, by omega, ?_, by rw [Int.toNat_of_nonneg (by omega)]; exact hb⟩
      unfold cntOf
      have : 0 < q.countP (isE false a x.fr.toNat x.kd.toNat) := List.countP_pos_iff.2 ⟨x, hx, by simp only [isE, Bool.false_eq_true, if_false, decide_eq_true_eq]; omega⟩
      omega
  · show _ ↔ z ∈ keysL _
    rw [mem_keysL, List.mem_map]
    constructor
    · rintro ⟨c, k, hc, hk, rfl, h1, h2⟩
      unfold cntOf at h1
      have h3 : 0 < q.countP (isE true a c k) := by omega
      obtain ⟨x, hx, he⟩ := List.countP_pos_iff.1 h3
      simp only [isE, if_true, decide_eq_true_eq] at he
      refine ⟨x, ?_, he.2.1⟩
      unfold ofA
      rw [List.mem_filter, List.mem_filter, beq_iff_eq]
      exact ⟨⟨hx, by rw [he.2.2]; exact h2⟩, he.1⟩
    · rintro ⟨x, hx, rfl⟩
      unfold ofA at hx
      rw [List.mem_filter, List.mem_filter, beq_iff_eq] at hx
      obtain ⟨⟨hx, hb⟩, he⟩ := hx
      have hxr := hq.1 x hx
      unfold rightO at hxr
      refine ⟨x.to.toNat, x.kd.toNat, by omega, by omega, by omega, ?_, by rw [Int.toNat_of_nonneg (by omega)]; exact hb⟩
      unfold cntOf
      have : 0 < q.countP (isE true a x.to.toNat x.kd.toNat) := List.countP_pos_iff.2 ⟨x, hx, by simp only [isE, if_true, decide_eq_true_eq]; omega⟩
      omega
end Go.Proofs.YtakgepdlninnhaaDoor.Gr
namespace Go.Proofs.YtakgepdlninnhaaDoor.Gr
open Go.ChangeShapes Go.WideShapes Go.ChangeAt Go.RowKit Base Ro F Dl Ln Rf
theorem right_iff (n : Nat) (a : Arc) : rightA n a.fr a.to a.kd a.lb ↔ rightO n a := by
  unfold rightA rightO
  omega
/-- A right arc's parts, as Nats. -/
theorem right_nat {n : Nat} {a : Arc} (h : rightO n a) : ∃ f t k l : Nat, a = ⟨(f : Int), (t : Int), (k : Int), (l : Int)⟩ ∧ f < n ∧ t < n ∧ 1 ≤ k ∧ k < 4 ∧ l ≤ 1048575 := by
  unfold rightO at h
  obtain ⟨x0, x1, x2, x3⟩ := a
  dsimp only at h
  obtain ⟨f, rfl⟩ := Int.eq_ofNat_of_zero_le h.1.1
  obtain ⟨t, rfl⟩ := Int.eq_ofNat_of_zero_le h.2.1.1
  obtain ⟨k, rfl⟩ := Int.eq_ofNat_of_zero_le (show 0 ≤ x2 by omega)
  obtain ⟨l, rfl⟩ := Int.eq_ofNat_of_zero_le h.2.2.2.1
  exact ⟨f, t, k, l, rfl, by omega, by omega, by omega, by omega, by omega⟩
def addE (n : Nat) (q : List Arc) (a : Arc) : Int := if rightO n a then (if a ∈ q then 4 else 0) else 1
def addL (n : Nat) (q : List Arc) (a : Arc) : List Arc := if rightO n a ∧ a ∉ q then goA a false q else q
theorem addL_len (n : Nat) (q : List Arc) (a : Arc) : (addL n q a).length ≤ q.length + 1 := by
  unfold addL
  split
  · rename_i h
    have := (goA_perm h.2).length_eq
    rw [this]; simp
  · omega
/-- What a call that tells a list of numbers leaves. -/
def NumsP (w : World) (zs : List Int) (e : Ending) (w' : World) : Prop := ∃ v, e = .returned v ∧ Lst.OwnI w.heap.size w' v zs ∧ Below w.heap.size w w'
theorem cntOf_nil : cntOf [] = zeroC := rfl
end Go.Proofs.YtakgepdlninnhaaDoor.Gr
namespace Go.Proofs.YtakgepdlninnhaaDoor.Gr
open Go.ChangeShapes Go.WideShapes Go.ChangeAt Go.RowKit Base Ro F Dl Ln Rf
/-- The arcs that go out of the nodes ahead of u. -/
def allT (p : List Arc) : Nat → List Arc
  | 0 => []
  | u + 1 => allT p u ++ p.filter fun x => x.fr == (u : Int)
theorem allT_arcs {n : Nat} (hn : n ≤ 4096) {q : List Arc} (hq : GoodA n q) (mask : Int) : ∀ u, allT (ofA q mask) u = arcsT (q.map numA) mask u
  | 0 => rfl
  | u + 1 => by rw [allT, arcsT, allT_arcs hn hq mask u, outs_eq hn hq mask u]
theorem allT_all {n : Nat} (hn : n ≤ 4096) {q : List Arc} (hq : GoodA n q) (mask : Int) : allT (ofA q mask) n = ofA q mask := by
  rw [allT_arcs hn hq, arcs_eq hn hq]
theorem allT_len {n : Nat} (hn : n ≤ 4096) {q : List Arc} (hq : GoodA n q) (mask : Int) (u : Nat) : (allT (ofA q mask) u).length ≤ q.length := by
  rw [allT_arcs hn hq]
  have := arcsT_len hq.2 mask u
  rwa [List.length_map] at this
theorem ofA_len (q : List Arc) (mask : Int) : (ofA q mask).length ≤ q.length := List.length_filter_le _ _
theorem sideO_len (p : List Arc) (a : Int) (back : Bool) : (sideO p a back).length ≤ p.length := by
  unfold sideO
  cases back
  · exact Nat.le_trans (keysL_len _) (by rw [List.length_map]; exact List.length_filter_le _ _)
  · exact Nat.le_trans (keysL_len _) (by rw [List.length_map]; exact List.length_filter_le _ _)
theorem mem_next {p : List Arc} {a z : Int} : z ∈ sideO p a false ↔ ∃ x ∈ p, x.fr = a ∧ x.to = z := by
  unfold sideO
  rw [if_neg (by simp), mem_keysL, List.mem_map]
  constructor
  · rintro ⟨x, hx, rfl⟩
    rw [List.mem_filter, beq_iff_eq] at hx
    exact ⟨x, hx.1, hx.2, rfl⟩
  · rintro ⟨x, hx, h1, rfl⟩
    exact ⟨x, List.mem_filter.2 ⟨hx, beq_iff_eq.2 h1⟩, rfl⟩
theorem mem_prev {p : List Arc} {a z : Int} : z ∈ sideO p a true ↔ ∃ x ∈ p, x.to = a ∧ x.fr = z := by
  unfold sideO
  rw [if_pos rfl, mem_keysL, List.mem_map]
  constructor
  · rintro ⟨x, hx, rfl⟩
    rw [List.mem_filter, beq_iff_eq] at hx
    exact ⟨x, hx.1, hx.2, rfl⟩
  · rintro ⟨x, hx, h1, rfl⟩
    exact ⟨x, List.mem_filter.2 ⟨hx, beq_iff_eq.2 h1⟩, rfl⟩
/-- From both sides. -/
theorem sides_both (p : List Arc) (u v : Int) : decide (v ∈ sideO p u false) = decide (u ∈ sideO p v true) := by
  rw [decide_eq_decide, mem_next, mem_prev]
  constructor
  · rintro ⟨x, hx, h1, h2⟩; exact ⟨x, hx, h2, h1⟩
  · rintro ⟨x, hx, h1, h2⟩; exact ⟨x, hx, h2, h1⟩
theorem all14 {n : Nat} (hn : n ≤ 4096) {q : List Arc} (hq : GoodA n q) : ofA q 14 = q := by
  unfold ofA
  rw [List.filter_eq_self]
  intro x hx
  have := right_b hn (hq.1 x hx)
  have h3 : x.kd = 1 ∨ x.kd = 2 ∨ x.kd = 3 := by omega
  rcases h3 with h | h | h <;> rw [h] <;> decide +kernel
end Go.Proofs.YtakgepdlninnhaaDoor.Gr
namespace Go.Proofs.YtakgepdlninnhaaDoor.Sc
open Go.Proofs.YtakgepdlninnhaaDoor.F Go.Proofs.YtakgepdlninnhaaDoor.Rf Go.Proofs.YtakgepdlninnhaaDoor.Gr
/-- An arc of the list goes from one to another. -/
def Hop (l : List Arc) (a b : Int) : Prop := ∃ x ∈ l, x.fr = a ∧ x.to = b
/-- Reached by one arc or more. -/
inductive Rst (l : List Arc) (a : Int) : Int → Prop
  | arc {b : Int} : Hop l a b → Rst l a b
  | tail {b c : Int} : Rst l a b → Hop l b c → Rst l a c
theorem Rst.trans {l : List Arc} {a b c : Int} (h : Rst l a b) (k : Rst l b c) : Rst l a c := by
  induction k with
  | arc e => exact h.tail e
  | tail _ e ih => exact ih.tail e
def stepA (out : List Int) (x : Arc) : List Int := if x.fr ∈ out ∧ x.to ∉ out then putF x.to out else out
def passA (l : List Arc) (out : List Int) : List Int := l.foldl stepA out
def runsA (l : List Arc) : Nat → List Int → List Int
  | 0, out => out
  | k + 1, out => runsA l k (passA l out)
def reachR (l : List Arc) (s : Int) : List Int := runsA l (l.length + 1) (sideO l s false)
theorem stepA_sub {out : List Int} {x : Arc} {y : Int} (h : y ∈ out) : y ∈ stepA out x := by
  unfold stepA
  split
  · exact (mem_putF _ _ _).2 (.inr h)
  · exact h
theorem stepA_new {out : List Int} {x : Arc} (h : x.fr ∈ out) : x.to ∈ stepA out x := by
  unfold stepA
  split
  · exact (mem_putF _ _ _).2 (.inl rfl)
  · rename_i hh
    exact Classical.byContradiction fun e => hh ⟨h, e⟩
theorem fold_sub {y : Int} : ∀ (m : List Arc) {out : List Int}, y ∈ out → y ∈ m.foldl stepA out
  | [], _, h => h
  | _ :: m, _, h => fold_sub m (stepA_sub h)
theorem fold_new {x : Arc} : ∀ (m : List Arc) {out : List Int}, x ∈ m → x.fr ∈ out → x.to ∈ m.foldl stepA out
  | [], _, h, _ => by cases h
  | z :: m, out, h, hf => by
    rcases List.mem_cons.1 h with rfl | h
    · exact fold_sub m (stepA_new hf)
    · exact fold_new m h (stepA_sub hf)
theorem fold_sound {l : List Arc} {s : Int} : ∀ (m : List Arc) {out : List Int}, (∀ x ∈ m, x ∈ l) → (∀ y ∈ out, Rst l s y) → ∀ y ∈ m.foldl stepA out, Rst l s y
  | [], _, _, h => h
  | x :: m, out, hm, h => fold_sound m (fun z hz => hm z (List.mem_cons_of_mem _ hz)) (by
    intro y hy
    unfold stepA at hy
    split at hy
    · rename_i hh
      rcases (mem_putF _ _ _).1 hy with rfl | hy
      · exact (h _ hh.1).tail ⟨x, hm x List.mem_cons_self, rfl, rfl⟩
      · exact h y hy
    · exact h y hy)
/-- No arc leads out. -/
def Shut (l : List Arc) (out : List Int) : Prop := ∀ x ∈ l, x.fr ∈ out → x.to ∈ out
theorem fold_shut {out : List Int} : ∀ (m : List Arc), (∀ x ∈ m, x.fr ∈ out → x.to ∈ out) → m.foldl stepA out = out
  | [], _ => rfl
  | x :: m, h => by
    have e : stepA out x = out := by
      unfold stepA
      rw [if_neg fun hh => hh.2 (h x List.mem_cons_self hh.1)]
    rw [List.foldl_cons, e]
    exact fold_shut m fun z hz => h z (List.mem_cons_of_mem _ hz)
theorem runs_shut {l : List Arc} {out : List Int} (h : Shut l out) : ∀ k, runsA l k out = out
  | 0 => rfl
  | k + 1 => by rw [runsA, passA, fold_shut l h]; exact runs_shut h k
/-- How many arcs lead to who is not in yet. -/
def leftA (l : List Arc) (out : List Int) : Nat := l.countP fun x => decide (x.to ∉ out)
theorem count_lt {p q : Arc → Bool} : ∀ {l : List Arc}, (∀ x ∈ l, p x = true → q x = true) → (∃ x ∈ l, p x = false ∧ q x = true) → l.countP p < l.countP q
  | [], _, ⟨x, hx, _⟩ => by cases hx
  | z :: l, h, ⟨x, hx, h1, h2⟩ => by
    have hle : l.countP p ≤ l.countP q := List.countP_mono_left fun x hx e => h x (List.mem_cons_of_mem _ hx) e
    rcases List.mem_cons.1 hx with rfl | hx
    · rw [List.countP_cons, List.countP_cons, h1, h2]
      simp; omega
    · have ih := count_lt (fun y hy e => h y (List.mem_cons_of_mem _ hy) e) ⟨x, hx, h1, h2⟩
      rw [List.countP_cons, List.countP_cons]
      have := h z List.mem_cons_self
      cases hp : p z
      · split <;> split <;> simp_all <;> omega
      · rw [if_pos rfl, if_pos (this hp)]; omega
theorem left_less {l : List Arc} {out : List Int} (h : ¬ Shut l out) : leftA l (passA l out) < leftA l out := by
  have hx : ∃ x ∈ l, x.fr ∈ out ∧ x.to ∉ out := by
    apply Classical.byContradiction
    intro hh
    refine h fun x hx hf => Classical.byContradiction fun e => hh ⟨x, hx, hf, e⟩
  obtain ⟨x, hx, hf, ht⟩ := hx
  refine count_lt (fun y _ e => ?_) ⟨x, hx, ?_, ?_⟩
  · rw [decide_eq_true_eq] at e ⊢
    exact fun hh => e (fold_sub l hh)
  · rw [decide_eq_false_iff_not]
    exact fun hh => hh (fold_new l hx hf)
  · rw [decide_eq_true_eq]; exact ht
theorem runs_end {l : List Arc} : ∀ (k : Nat) {out : List Int}, leftA l out ≤ k → Shut l (runsA l k out)
  | 0, out, h => by
    intro x hx _
    have h0 : leftA l out = 0 := by omega
    unfold leftA at h0
    rw [List.countP_eq_zero] at h0
    have := h0 x hx
    rw [decide_eq_true_eq] at this
    exact Classical.byContradiction this
  | k + 1, out, h => by
    rw [runsA]
    by_cases hs : Shut l out
    · rw [passA, fold_shut l hs, runs_shut hs]; exact hs
    · exact runs_end k (by have := left_less hs; omega)
theorem runs_sub {l : List Arc} {y : Int} : ∀ (k : Nat) {out : List Int}, y ∈ out → y ∈ runsA l k out
  | 0, _, h => h
  | k + 1, _, h => runs_sub k (fold_sub l h)
theorem runs_sound {l : List Arc} {s : Int} : ∀ (k : Nat) {out : List Int}, (∀ y ∈ out, Rst l s y) → ∀ y ∈ runsA l k out, Rst l s y
  | 0, _, h => h
  | k + 1, _, h => runs_sound k (fold_sound l (fun _ hx => hx) h)
/-- Who is told is who is reached. -/
theorem mem_reachR (l : List Arc) (s y : Int) : y ∈ reachR l s ↔ Rst l s y := by
  constructor
  · refine runs_sound _ (fun y hy => ?_) y
    exact .arc (mem_next.1 hy)
  · intro h
    have hs : Shut l (reachR l s) := runs_end _ (Nat.le_trans List.countP_le_length (Nat.le_succ _))
    induction h with
    | arc h => exact runs_sub _ (mem_next.2 h)
    | tail _ h ih =>
      obtain ⟨x, hx, rfl, rfl⟩ := h
      exact hs x hx ih
/-- The least of those that p holds of, below k; else the one told. -/
def labF (p : Nat → Bool) : Nat → Nat → Nat
  | 0, r => r
  | k + 1, r => labF p k (if p k then k else r)
theorem labF_is {p : Nat → Bool} : ∀ (k r : Nat), k ≤ r → labF p k r ≤ r ∧ (labF p k r = r ∨ p (labF p k r) = true) ∧ ∀ j, j < k → p j = true → labF p k r ≤ j
  | 0, r, _ => ⟨Nat.le_refl _, .inl rfl, fun _ h => absurd h (by omega)⟩
  | k + 1, r, h => by
    rw [labF]
    by_cases hp : p k = true
    · rw [if_pos hp]
      obtain ⟨h1, h2, h3⟩ := labF_is (p := p) k k (Nat.le_refl _)
      refine ⟨by omega, ?_, fun j hj e => ?_⟩
      · rcases h2 with h2 | h2
        · rw [h2]; exact .inr hp
        · exact .inr h2
      · by_cases hjk : j = k
        · omega
        · exact h3 j (by omega) e
    · rw [if_neg hp]
      obtain ⟨h1, h2, h3⟩ := labF_is (p := p) k r (by omega)
      refine ⟨h1, h2, fun j hj e => ?_⟩
      by_cases hjk : j = k
      · subst hjk; exact absurd e hp
      · exact h3 j (by omega) e
/-- Where a node's arcs go. -/
def nxA (l : List Arc) (a : Nat) : List Nat := (sideO l (a : Int) false).map Int.toNat
theorem mem_nxA {l : List Arc} (h0 : ∀ x ∈ l, 0 ≤ x.to) {a b : Nat} : b ∈ nxA l a ↔ Hop l (a : Int) (b : Int) := by
  unfold nxA
  rw [List.mem_map]
  constructor
  · rintro ⟨z, hz, rfl⟩
    obtain ⟨x, hx, h1, rfl⟩ := mem_next.1 hz
    exact ⟨x, hx, h1, by have := h0 x hx; omega⟩
  · rintro h
    exact ⟨_, mem_next.2 h, by omega⟩
theorem rst_nat {l : List Arc} (h0 : ∀ x ∈ l, 0 ≤ x.to) {a : Nat} {y : Int} (h : Rst l (a : Int) y) : ∃ b : Nat, y = (b : Int) ∧ Rch (nxA l) a b := by
  induction h with
  | arc h =>
    obtain ⟨x, hx, h1, rfl⟩ := h
    obtain ⟨b, hb⟩ := Int.eq_ofNat_of_zero_le (h0 x hx)
    exact ⟨b, hb, Rch.arc ((mem_nxA h0).2 ⟨x, hx, h1, hb⟩)⟩
  | tail _ h ih =>
    obtain ⟨b, rfl, hr⟩ := ih
    obtain ⟨x, hx, h1, rfl⟩ := h
    obtain ⟨c, hc⟩ := Int.eq_ofNat_of_zero_le (h0 x hx)
    exact ⟨c, hc, hr.tail ((mem_nxA h0).2 ⟨x, hx, h1, hc⟩)⟩
theorem rst_of {l : List Arc} (h0 : ∀ x ∈ l, 0 ≤ x.to) {a b : Nat} (h : Rch (nxA l) a b) : a = b ∨ Rst l (a : Int) (b : Int) := by
  induction h with
  | refl => exact .inl rfl
  | tail _ h ih =>
    rcases ih with rfl | ih
    · exact .inr (.arc ((mem_nxA h0).1 h))
    · exact .inr (ih.tail ((mem_nxA h0).1 h))
theorem rch_iff {l : List Arc} (h0 : ∀ x ∈ l, 0 ≤ x.to) {a b : Nat} (hn : a ≠ b) : Rch (nxA l) a b ↔ Rst l (a : Int) (b : Int) := by
  constructor
  · intro h
    rcases rst_of h0 h with e | h
    · exact absurd e hn
    · exact h
  · intro h
    obtain ⟨c, hc, hr⟩ := rst_nat h0 h
    have : b = c := by omega
    subst this; exact hr
/-- The document's label. -/
def labR (l : List Arc) (i : Nat) : Nat := labF (fun k => decide ((k : Int) ∈ reachR l (i : Int)) && decide ((i : Int) ∈ reachR l (k : Int))) i i
theorem labR_is {l : List Arc} (h0 : ∀ x ∈ l, 0 ≤ x.to) (i : Nat) : IsLab (nxA l) i (labR l i) ∧ labR l i ≤ i := by
  obtain ⟨h1, h2, h3⟩ := labF_is (p := fun k => decide ((k : Int) ∈ reachR l (i : Int)) && decide ((i : Int) ∈ reachR l (k : Int))) i i (Nat.le_refl _)
  have key : ∀ k : Nat, k ≠ i → (((decide ((k : Int) ∈ reachR l (i : Int)) && decide ((i : Int) ∈ reachR l (k : Int))) = true) ↔ Mut (nxA l) i k) := fun k hk => by
    rw [Bool.and_eq_true, decide_eq_true_eq, decide_eq_true_eq, mem_reachR, mem_reachR]
    unfold Mut
    rw [rch_iff h0 (Ne.symm hk), rch_iff h0 hk]
  refine ⟨⟨?_, fun z hz => ?_⟩, h1⟩
  · rcases h2 with h2 | h2
    · unfold labR
      rw [h2]
      exact ⟨.refl, .refl⟩
    · by_cases e : labR l i = i
      · rw [e]; exact ⟨.refl, .refl⟩
      · exact (key _ e).1 h2
  · by_cases hzi : z < i
    · exact h3 z hzi ((key z (by omega)).2 hz)
    · have : labR l i ≤ i := h1
      omega
theorem lab_one {nx : Nat → List Nat} {v a b : Nat} (h : IsLab nx v a) (k : IsLab nx v b) : a = b := by
  have := h.2 b k.1
  have := k.2 a h.1
  omega
theorem labR_eq {l : List Arc} (h0 : ∀ x ∈ l, 0 ≤ x.to) {i a : Nat} (h : IsLab (nxA l) i a) : a = labR l i := lab_one h (labR_is h0 i).1
/-- Who goes round. -/
theorem round_iff {l : List Arc} (h0 : ∀ x ∈ l, 0 ≤ x.to) (i : Nat) : ((i : Int) ∈ reachR l (i : Int)) ↔ ((∃ j, j ≠ i ∧ Mut (nxA l) i j) ∨ i ∈ nxA l i) := by
  rw [mem_reachR]
  constructor
  · intro h
    have hh : ∀ y : Int, Rst l (i : Int) y → ∀ c : Nat, y = (c : Int) → Rch (nxA l) c i → ((∃ j, j ≠ i ∧ Mut (nxA l) i j) ∨ i ∈ nxA l i) := by
      intro y hy
      induction hy with
      | arc h =>
        rintro c rfl hc
        by_cases e : c = i
        · subst e
          exact .inr ((mem_nxA h0).2 h)
        · exact .inl ⟨c, e, Rch.arc ((mem_nxA h0).2 h), hc⟩
      | tail hb h ih =>
        rintro c rfl hc
        obtain ⟨b, rfl, _⟩ := rst_nat h0 hb
        exact ih b rfl (Rch.head ((mem_nxA h0).2 h) hc)
    exact hh _ h i rfl .refl
  · rintro (⟨j, hj, h1, h2⟩ | h)
    · have h1 := (rch_iff h0 (Ne.symm hj)).1 h1
      have h2 := (rch_iff h0 hj).1 h2
      exact h1.trans h2
    · exact .arc ((mem_nxA h0).1 h)
end Go.Proofs.YtakgepdlninnhaaDoor.Sc
namespace Go.Proofs.YtakgepdlninnhaaDoor.Cl
open Go.Proofs.YtakgepdlninnhaaDoor.F Go.Proofs.YtakgepdlninnhaaDoor.Rf Go.Proofs.YtakgepdlninnhaaDoor.Gr Go.Proofs.YtakgepdlninnhaaDoor.Sc
theorem rst_rs {l : List Arc} (h0 : ∀ x ∈ l, 0 ≤ x.to) {a b : Nat} : Rst l (a : Int) (b : Int) ↔ Rs (fun x y => Hop l (x : Int) (y : Int)) a b := by
  constructor
  · intro h
    have key : ∀ y : Int, Rst l (a : Int) y → ∀ b : Nat, y = (b : Int) → Rs (fun x y => Hop l (x : Int) (y : Int)) a b := by
      intro y hy
      induction hy with
      | arc e =>
        rintro b rfl
        exact .arc e
      | tail hb e ih =>
        rintro c rfl
        obtain ⟨b, rfl, _⟩ := rst_nat h0 hb
        exact (ih b rfl).tail e
    exact key _ h b rfl
  · intro h
    induction h with
    | arc e => exact .arc e
    | tail _ e ih => exact ih.tail e
/-- Which arcs are there, when one was put. -/
theorem mem_goA {a y : Arc} : ∀ {b : Bool} {l : List Arc}, y ∈ goA a b l ↔ (y = a ∧ b = false) ∨ (y ∈ l ∧ y ≠ a)
  | b, [] => by cases b <;> simp [goA]
  | b, x :: l => by
    rw [goA, List.mem_append, List.mem_append, mem_goA (b := b || !lessA x a) (l := l), List.mem_cons]
    have hb : Arc.beq x a = true ↔ x = a := Arc.beq_iff x a
    by_cases hx : x = a
    · subst hx
      rw [if_pos (hb.2 rfl)]
      by_cases hy : y = x
      · cases b <;> cases lessA x x <;> simp [hy]
      · cases b <;> cases lessA x x <;> simp [hy]
    · rw [if_neg (fun e => hx (hb.1 e))]
      by_cases hy : y = a
      · subst hy
        have hyx : ¬ y = x := fun e => hx e.symm
        cases b <;> cases lessA x y <;> simp [hyx]
      · by_cases hyx : y = x
        · subst hyx
          cases b <;> cases lessA y a <;> simp [hy]
        · cases b <;> cases lessA x a <;> simp [hy, hyx]
/-- The arcs of pairs. -/
def arcsP (l : List (Int × Int)) : List Arc := l.foldl (fun out p => goA ⟨p.1, p.2, 1, 0⟩ false out) []
theorem mem_fold {y : Arc} : ∀ (l : List (Int × Int)) (out : List Arc), y ∈ l.foldl (fun out p => goA ⟨p.1, p.2, 1, 0⟩ false out) out ↔ y ∈ out ∨ ∃ p ∈ l, y = ⟨p.1, p.2, 1, 0⟩
  | [], out => by simp
  | p :: l, out => by
    rw [List.foldl_cons, mem_fold l, mem_goA]
    constructor
    · rintro ((⟨h, _⟩ | ⟨h, _⟩) | ⟨q, h1, h2⟩)
      · exact .inr ⟨p, List.mem_cons_self, h⟩
      · exact .inl h
      · exact .inr ⟨q, List.mem_cons_of_mem _ h1, h2⟩
    · rintro (h | ⟨q, h1, h2⟩)
      · by_cases hy : y = ⟨p.1, p.2, 1, 0⟩
        · exact .inl (.inl ⟨hy, rfl⟩)
        · exact .inl (.inr ⟨h, hy⟩)
      · rcases List.mem_cons.1 h1 with rfl | h1
        · exact .inl (.inl ⟨h2, rfl⟩)
        · exact .inr ⟨q, h1, h2⟩
theorem mem_arcsP {l : List (Int × Int)} {y : Arc} : y ∈ arcsP l ↔ ∃ p ∈ l, y = ⟨p.1, p.2, 1, 0⟩ := by
  unfold arcsP
  rw [mem_fold]
  simp
theorem hop_pairs {l : List (Int × Int)} {a b : Int} : Hop (arcsP l) a b ↔ (a, b) ∈ l := by
  unfold Hop
  constructor
  · rintro ⟨x, hx, rfl, rfl⟩
    obtain ⟨p, hp, rfl⟩ := mem_arcsP.1 hx
    exact hp
  · intro h
    exact ⟨⟨a, b, 1, 0⟩, mem_arcsP.2 ⟨_, h, rfl⟩, rfl, rfl⟩
/-- The document's row of a node: whom it reaches by the pairs. -/
theorem mem_row {l : List (Int × Int)} (h0 : ∀ p ∈ l, 0 ≤ p.2) {a b : Nat} : (b : Int) ∈ reachR (arcsP l) (a : Int) ↔ Rs (fun x y => ((x : Int), (y : Int)) ∈ l) a b := by
  rw [mem_reachR, rst_rs (fun x hx => by obtain ⟨p, hp, rfl⟩ := mem_arcsP.1 hx; exact h0 p hp)]
  constructor
  · exact Rs.mono fun x y h => hop_pairs.1 h
  · exact Rs.mono fun x y h => hop_pairs.2 h
end Go.Proofs.YtakgepdlninnhaaDoor.Cl
namespace Go.Proofs.YtakgepdlninnhaaDoor.Sc
open Go.Proofs.YtakgepdlninnhaaDoor.F Go.Proofs.YtakgepdlninnhaaDoor.Rf Go.Proofs.YtakgepdlninnhaaDoor.Gr
theorem Mut.symm {nx : Nat → List Nat} {a b : Nat} (h : Mut nx a b) : Mut nx b a := ⟨h.2, h.1⟩
theorem Mut.trans {nx : Nat → List Nat} {a b c : Nat} (h : Mut nx a b) (k : Mut nx b c) : Mut nx a c := ⟨h.1.trans k.1, k.2.trans h.2⟩
theorem Mut.refl (nx : Nat → List Nat) (a : Nat) : Mut nx a a := ⟨.refl, .refl⟩
theorem IsLab.mut {nx : Nat → List Nat} {a b l : Nat} (h : IsLab nx a l) (k : Mut nx a b) : IsLab nx b l := ⟨k.symm.trans h.1, fun z hz => h.2 z (k.trans hz)⟩
section
variable {l : List Arc} (h0 : ∀ x ∈ l, 0 ≤ x.to)
include h0
/-- Two have one label exactly if each reaches the other. -/
theorem lab_mut (i j : Nat) : labR l i = labR l j ↔ Mut (nxA l) i j := by
  constructor
  · intro h
    have h1 := (labR_is h0 i).1.1
    have h2 := (labR_is h0 j).1.1
    rw [← h] at h2
    exact h1.trans h2.symm
  · intro h
    exact labR_eq h0 ((labR_is h0 i).1.mut h)
/-- A label is its own label. -/
theorem lab_lab (i : Nat) : labR l (labR l i) = labR l i := ((lab_mut h0 _ _).2 (labR_is h0 i).1.1.symm)
end
/-- The nodes of a label. -/
def memR (n : Nat) (lab : Nat → Nat) (i : Nat) : List Nat := (List.range n).filter fun j => lab j == i
theorem mem_memR {n : Nat} {lab : Nat → Nat} {i j : Nat} : j ∈ memR n lab i ↔ j < n ∧ lab j = i := by
  unfold memR
  rw [List.mem_filter, List.mem_range, beq_iff_eq]
theorem memR_snoc (n : Nat) (lab : Nat → Nat) (i : Nat) : memR (n + 1) lab i = if lab n = i then memR n lab i ++ [n] else memR n lab i := by
  unfold memR
  rw [List.range_succ, List.filter_append]
  by_cases h : lab n = i <;> simp [h]
/-- Labels as they are told: each is its own, and none lies beyond its node. -/
structure LabOk (n : Nat) (lab : Nat → Nat) : Prop where
  own : ∀ i, i < n → lab (lab i) = lab i
  le : ∀ i, i < n → lab i ≤ i
theorem labR_ok {l : List Arc} (h0 : ∀ x ∈ l, 0 ≤ x.to) (n : Nat) : LabOk n (labR l) := ⟨fun i _ => lab_lab h0 i, fun i _ => (labR_is h0 i).2⟩
theorem memR_nil {n : Nat} {lab : Nat → Nat} (h : LabOk n lab) {i : Nat} (hi : i < n) : memR n lab i = [] ↔ lab i ≠ i := by
  constructor
  · intro e k
    have : i ∈ memR n lab i := mem_memR.2 ⟨hi, k⟩
    rw [e] at this
    cases this
  · intro k
    rw [List.eq_nil_iff_forall_not_mem]
    intro j hj
    obtain ⟨h1, h2⟩ := mem_memR.1 hj
    have := h.own j h1
    rw [h2] at this
    exact k this
/-- The components, by their labels. -/
def partsR (n : Nat) (lab : Nat → Nat) : List (List Nat) := ((List.range n).filter fun i => lab i == i).map (memR n lab)
/-- They are the lists of members that are not empty. -/
theorem parts_eq {n : Nat} {lab : Nat → Nat} (h : LabOk n lab) : ((List.range n).map (memR n lab)).filter (fun m => !(m.length == 0)) = partsR n lab := by
  unfold partsR
  rw [List.filter_map]
  congr 1
  refine List.filter_congr fun i hi => ?_
  rw [List.mem_range] at hi
  have e := memR_nil h hi
  rw [← List.length_eq_zero_iff] at e
  rw [Function.comp_apply, Bool.eq_iff_iff, beq_iff_eq, Bool.not_eq_true', beq_eq_false_iff_ne, Ne, e]
  exact Decidable.not_not
/-- The document's Round. -/
def roundR (l : List Arc) (n : Nat) : List Nat := (List.range n).filter fun i : Nat => decide ((i : Int) ∈ reachR l (i : Int))
theorem mem_parts {n : Nat} {lab : Nat → Nat} {m : List Nat} : m ∈ partsR n lab ↔ ∃ i, i < n ∧ lab i = i ∧ memR n lab i = m := by
  unfold partsR
  rw [List.mem_map]
  constructor
  · rintro ⟨i, hi, rfl⟩
    rw [List.mem_filter, List.mem_range, beq_iff_eq] at hi
    exact ⟨i, hi.1, hi.2, rfl⟩
  · rintro ⟨i, h1, h2, rfl⟩
    exact ⟨i, List.mem_filter.2 ⟨List.mem_range.2 h1, beq_iff_eq.2 h2⟩, rfl⟩
theorem nodup_memR (n : Nat) (lab : Nat → Nat) (i : Nat) : (memR n lab i).Nodup := List.nodup_range.sublist List.filter_sublist
/-- A component of one node whose arcs don't go to itself. -/
def Lone (l : List Arc) (m : List Nat) : Prop := ∃ v, m = [v] ∧ v ∉ nxA l v
theorem rst_lt {l : List Arc} {n : Nat} (hn : ∀ x ∈ l, x.to < (n : Int)) {a y : Int} (h : Rst l a y) : y < (n : Int) := by
  cases h with
  | arc h => obtain ⟨x, hx, _, rfl⟩ := h; exact hn x hx
  | tail _ h => obtain ⟨x, hx, _, rfl⟩ := h; exact hn x hx
/-- Who goes round is of a component that is not so. -/
theorem round_parts {l : List Arc} {n : Nat} (h0 : ∀ x ∈ l, 0 ≤ x.to) (hn : ∀ x ∈ l, x.to < (n : Int)) (i : Nat) : i ∈ roundR l n ↔ ∃ m ∈ partsR n (labR l), ¬ Lone l m ∧ i ∈ m := by
  unfold roundR
  rw [List.mem_filter, List.mem_range, decide_eq_true_eq, round_iff h0]
  constructor
  · rintro ⟨hi, h⟩
    have hlt : labR l i < n := Nat.lt_of_le_of_lt (labR_is h0 i).2 hi
    refine ⟨_, mem_parts.2 ⟨labR l i, hlt, lab_lab h0 i, rfl⟩, ?_, mem_memR.2 ⟨hi, rfl⟩⟩
    rintro ⟨v, hv, hs⟩
    have hiv : i = v := by
      have : i ∈ memR n (labR l) (labR l i) := mem_memR.2 ⟨hi, rfl⟩
      rw [hv] at this
      simpa using this
    subst hiv
    rcases h with ⟨j, hj, hm⟩ | h
    · have hjn : j < n := by
        rcases rst_of h0 hm.1 with e | h
        · exact absurd e.symm hj
        · have := rst_lt hn h; omega
      have : j ∈ memR n (labR l) (labR l i) := mem_memR.2 ⟨hjn, ((lab_mut h0 _ _).2 hm).symm⟩
      rw [hv] at this
      exact hj (by simpa using this)
    · exact hs h
  · rintro ⟨m, hm, hl, hi⟩
    obtain ⟨c, hc, hcc, rfl⟩ := mem_parts.1 hm
    obtain ⟨hin, hic⟩ := mem_memR.1 hi
    refine ⟨hin, ?_⟩
    apply Classical.byContradiction
    intro hno
    have h1 : ∀ j, Mut (nxA l) i j → j = i := fun j hj => Classical.byContradiction fun e => hno (.inl ⟨j, e, hj⟩)
    refine hl ⟨i, ?_, fun h => hno (.inr h)⟩
    have hall : ∀ j ∈ memR n (labR l) c, j = i := fun j hj => by
      obtain ⟨_, hjc⟩ := mem_memR.1 hj
      exact h1 j ((lab_mut h0 _ _).1 (by rw [hic, hjc]))
    have hnd := nodup_memR n (labR l) c
    revert hi hnd hall
    generalize memR n (labR l) c = m
    intro hi hall hnd
    match m, hi, hall, hnd with
    | [], hi, _, _ => cases hi
    | [x], _, hall, _ => rw [hall x List.mem_cons_self]
    | x :: y :: m, _, hall, hnd =>
      have e1 := hall x List.mem_cons_self
      have e2 := hall y (List.mem_cons_of_mem _ List.mem_cons_self)
      rw [List.nodup_cons] at hnd
      exact absurd (by rw [e1, e2]; exact List.mem_cons_self) hnd.1
end Go.Proofs.YtakgepdlninnhaaDoor.Sc
namespace Go.Proofs.YtakgepdlninnhaaDoor.Sc
open Go.Proofs.YtakgepdlninnhaaDoor.F Go.Proofs.YtakgepdlninnhaaDoor.Rf Go.Proofs.YtakgepdlninnhaaDoor.Gr
theorem Rch.mono {nx ny : Nat → List Nat} (h : ∀ a b, b ∈ nx a → b ∈ ny a) {a b : Nat} (k : Rch nx a b) : Rch ny a b := by
  induction k with
  | refl => exact .refl
  | tail _ e ih => exact ih.tail (h _ _ e)
theorem Mut.mono {nx ny : Nat → List Nat} (h : ∀ a b, b ∈ nx a → b ∈ ny a) {a b : Nat} (k : Mut nx a b) : Mut ny a b := ⟨k.1.mono h, k.2.mono h⟩
/-- An arc between two components has no way back. -/
theorem no_back {l : List Arc} (h0 : ∀ x ∈ l, 0 ≤ x.to) {f t : Nat} (h : Hop l (f : Int) (t : Int)) (hd : labR l f ≠ labR l t) : ¬ Rch (nxA l) t f := fun hb =>
  hd ((lab_mut h0 _ _).2 ⟨Rch.arc ((mem_nxA h0).2 h), hb⟩)
/-- With more arcs, who was of one component still is. -/
theorem more_same {l m : List Arc} (h0 : ∀ x ∈ l, 0 ≤ x.to) (k0 : ∀ x ∈ m, 0 ≤ x.to) (hs : ∀ x ∈ l, x ∈ m) (i : Nat) : labR m i = labR m (labR l i) :=
  (lab_mut k0 _ _).2 ((labR_is h0 i).1.1.mono fun a b hb => by
    obtain ⟨x, hx, h1, h2⟩ := (mem_nxA h0).1 hb
    exact (mem_nxA k0).2 ⟨x, hs x hx, h1, h2⟩)
theorem addL_mem {n : Nat} {q : List Arc} {a x : Arc} (h : x ∈ q) : x ∈ addL n q a := by
  unfold addL
  split
  · rename_i hh
    exact (goA_perm hh.2).mem_iff.2 (List.mem_cons_of_mem _ h)
  · exact h
theorem ofA_add {n : Nat} {q : List Arc} {a x : Arc} {mask : Int} (h : x ∈ ofA q mask) : x ∈ ofA (addL n q a) mask := by
  unfold ofA at h ⊢
  rw [List.mem_filter] at h ⊢
  exact ⟨addL_mem h.1, h.2⟩
theorem ofA_ends {n : Nat} {q : List Arc} (hq : GoodA n q) (mask : Int) : (∀ x ∈ ofA q mask, 0 ≤ x.to) ∧ (∀ x ∈ ofA q mask, x.to < (n : Int)) ∧ (∀ x ∈ ofA q mask, 0 ≤ x.fr) ∧ ∀ x ∈ ofA q mask, x.fr < (n : Int) := by
  have h : ∀ x ∈ ofA q mask, rightO n x := fun x hx => hq.1 x (List.mem_filter.1 hx).1
  refine ⟨fun x hx => ?_, fun x hx => ?_, fun x hx => ?_, fun x hx => ?_⟩ <;> (have := h x hx; unfold rightO at this; omega)
/-- A node's arcs lead to nodes. -/
theorem nxA_lt {n : Nat} {l : List Arc} (hn : ∀ x ∈ l, x.to < (n : Int)) (h0 : ∀ x ∈ l, 0 ≤ x.to) {a b : Nat} (h : b ∈ nxA l a) : b < n := by
  obtain ⟨x, hx, _, h2⟩ := (mem_nxA h0).1 h
  have := hn x hx
  omega
/-- The arcs of a list that are right, put one behind the other. -/
theorem add_right {n : Nat} {q : List Arc} {a : Arc} (h : ¬ rightO n a) : addL n q a = q := by unfold addL; rw [if_neg (fun hh => h hh.1)]
end Go.Proofs.YtakgepdlninnhaaDoor.Sc
