/-
  What a digraph tells, as the document tells it. Not a statement of the seat.
-/
import Derived.Test.YtpgfkggfgkafjaaGrN
namespace Go.Proofs.Ytpgfkggfgkafjaa.Gr
open Go.ChangeShapes Go.WideShapes Go.ChangeAt Go.RowKit Base Ro F Dl Ln Rf
def ofA (q : List Arc) (mask : Int) : List Arc := q.filter fun x => rbit mask x.kd
theorem sel_eq {n : Nat} (hn : n ≤ 4096) {q : List Arc} (hq : GoodA n q) (p : Nat → Bool) (r : Arc → Bool) (h : ∀ x ∈ q, p (numA x) = r x) : ((q.map numA).filter p).map arcX = q.filter r := by
  rw [List.filter_map, List.map_map]
  have e : q.filter (p ∘ numA) = q.filter r := List.filter_congr fun x hx => h x hx
  rw [e]
  conv => rhs; rw [← List.map_id (q.filter r)]
  refine List.map_congr_left fun x hx => ?_
  exact arcX_numA hn (hq.1 x (List.mem_filter.1 hx).1)
theorem kd_bit {n : Nat} (hn : n ≤ 4096) {x : Arc} (hx : rightO n x) (mask : Int) : 1 ≤ kdN (numA x) ∧ kdN (numA x) < 4 ∧ mbit mask (kdN (numA x)) = rbit mask x.kd := by
  have h := right_b hn hx
  rw [numA_kd hn hx, mbit_rbit mask _ (by omega), Int.toNat_of_nonneg (by omega)]
  exact ⟨by omega, by omega, rfl⟩
theorem arcs_eq {n : Nat} (hn : n ≤ 4096) {q : List Arc} (hq : GoodA n q) (mask : Int) : arcsT (q.map numA) mask n = ofA q mask := by
  rw [arcsT_filter hq.2]
  refine sel_eq hn hq _ _ fun x hx => ?_
  obtain ⟨h1, _, h3⟩ := kd_bit hn (hq.1 x hx) mask
  have hr := hq.1 x hx
  rw [h3, numA_fr hn hr, decide_eq_true, Bool.true_and]
  unfold rightO at hr
  exact ⟨by omega, h1⟩
theorem outs_eq {n : Nat} (hn : n ≤ 4096) {q : List Arc} (hq : GoodA n q) (mask : Int) (a : Nat) : outT (q.map numA) a mask 4 = (ofA q mask).filter fun x => x.fr == (a : Int) := by
  rw [outT_filter hq.2 a mask 4 (by omega)]
  unfold ofA
  rw [List.filter_filter]
  refine sel_eq hn hq _ _ fun x hx => ?_
  obtain ⟨h1, h2, h3⟩ := kd_bit hn (hq.1 x hx) mask
  have hr := hq.1 x hx
  have hb := right_b hn hr
  rw [h3, numA_fr hn hr]
  congr 1
  rw [Bool.eq_iff_iff, decide_eq_true_iff, beq_iff_eq]
  omega
theorem ofA_good {n : Nat} {q : List Arc} (hq : GoodA n q) (mask : Int) : ∀ x ∈ ofA q mask, rightO n x := fun x hx => hq.1 x (List.mem_filter.1 hx).1
/-- A node out of sight has none. -/
theorem outs_none {n : Nat} {l : List Arc} (h : ∀ x ∈ l, rightO n x) {a : Int} (ha : ¬ (0 ≤ a ∧ a < (n : Int))) : (l.filter fun x => x.fr == a) = [] ∧ (l.filter fun x => x.to == a) = [] := by
  constructor <;>
  · rw [List.filter_eq_nil_iff]
    intro x hx
    have := h x hx
    unfold rightO at this
    rw [beq_iff_eq]
    intro e
    omega
theorem sideO_none {n : Nat} {l : List Arc} (h : ∀ x ∈ l, rightO n x) {a : Int} (ha : ¬ (0 ≤ a ∧ a < (n : Int))) (back : Bool) : sideO l a back = [] := by
  unfold sideO
  rw [(outs_none h ha).1, (outs_none h ha).2]
  cases back <;> rfl
theorem canK_mem_iff (cnt : Nat → Nat → Int) (l : List Nat) (x : Lk) : x ∈ canK cnt l ↔ ∃ c, c ∈ l ∧ bitsOf (cnt c) ≠ 0 ∧ x = lnk cnt c := by
  unfold canK
  rw [List.mem_flatMap]
  constructor
  · rintro ⟨c, hc, hx⟩
    unfold entK at hx
    split at hx
    · cases hx
    · rename_i hne
      exact ⟨c, hc, hne, by simpa using hx⟩
  · rintro ⟨c, hc, hne, rfl⟩
    exact ⟨c, hc, by unfold entK; rw [if_neg hne]; simp⟩
theorem pw_map_filter {ks : List Lk} {p : Lk → Bool} (h : ks.Pairwise (fun x y => x.nd < y.nd)) : Rises ((ks.filter p).map (·.nd)) := by
  unfold Rises
  rw [List.pairwise_map]
  exact h.sublist List.filter_sublist
theorem bits_and_zero (mask : Int) : bits .and .i64 0 mask = 0 := by
  rw [and_zero]
  simp
/-- Who is on a side, by counts. -/
theorem side_mem (cnt : Bool → Nat → Nat → Nat → Int) (s : Bool) (n a : Nat) (mask : Int) (z : Int) : z ∈ sideL cnt s n a mask ↔ ∃ c k : Nat, c < n ∧ k < 4 ∧ z = (c : Int) ∧ 0 < cnt s a c k ∧ rbit mask (k : Int) = true := by
  unfold sideL ofK
  rw [List.mem_map]
  constructor
  · rintro ⟨x, hx, rfl⟩
    rw [List.mem_filter, canK_mem_iff] at hx
    obtain ⟨⟨c, hc, _, rfl⟩, hk⟩ := hx
    rw [List.mem_range] at hc
    unfold keepK at hk
    have hk : (!decide (bits .and .i64 (bitsOf (cnt s a c)) mask = 0)) = true := hk
    have hne : bits .and .i64 (bitsOf (cnt s a c)) mask ≠ 0 := by rw [Bool.not_eq_true', decide_eq_false_iff_not] at hk; exact hk
    obtain ⟨k, h1, h2, h3⟩ := (keep_iff (cnt s a c) mask).1 hne
    exact ⟨c, k, hc, h1, rfl, h2, h3⟩
  · rintro ⟨c, k, hc, hk, rfl, h2, h3⟩
    have hne := (keep_iff (cnt s a c) mask).2 ⟨k, hk, h2, h3⟩
    refine ⟨lnk (cnt s a) c, ?_, rfl⟩
    rw [List.mem_filter, canK_mem_iff]
    refine ⟨⟨c, List.mem_range.2 hc, fun e => hne (by rw [e]; exact bits_and_zero mask), rfl⟩, ?_⟩
    show (!decide (bits .and .i64 (bitsOf (cnt s a c)) mask = 0)) = true
    rw [Bool.not_eq_true', decide_eq_false_iff_not]
    exact hne
theorem side_rises (cnt : Bool → Nat → Nat → Nat → Int) (s : Bool) (n a : Nat) (mask : Int) : Rises (sideL cnt s n a mask) := pw_map_filter (canK_pw _ _ (range_lt n))
theorem sides_eq {n : Nat} {q : List Arc} (hq : GoodA n q) (mask : Int) (s : Bool) (a : Nat) : sideL (cntOf q) s n a mask = sideO (ofA q mask) (a : Int) (!s) := by
  have hr : Rises (sideO (ofA q mask) (a : Int) (!s)) := by unfold sideO; cases s <;> exact keysL_rises _
  refine rises_ext (side_rises _ _ _ _ _) hr fun z => ?_
  rw [side_mem]
  cases s
  · show _ ↔ z ∈ keysL _
    rw [mem_keysL, List.mem_map]
    constructor
    · rintro ⟨c, k, hc, hk, rfl, h1, h2⟩
      unfold cntOf at h1
      have h3 : 0 < q.countP (isE false a c k) := by omega
      obtain ⟨x, hx, he⟩ := List.countP_pos_iff.1 h3
      simp only [isE, Bool.false_eq_true, if_false, decide_eq_true_eq] at he
      refine ⟨x, ?_, he.2.1⟩
      unfold ofA
      rw [List.mem_filter, List.mem_filter, beq_iff_eq]
      exact ⟨⟨hx, by rw [he.2.2]; exact h2⟩, he.1⟩
    · rintro ⟨x, hx, rfl⟩
      unfold ofA at hx
      rw [List.mem_filter, List.mem_filter, beq_iff_eq] at hx
      obtain ⟨⟨hx, hb⟩, he⟩ := hx
      have hxr := hq.1 x hx
      unfold rightO at hxr
      refine ⟨x.fr.toNat, x.kd.toNat, by omega, by omega, by omega, ?_, by rw [Int.toNat_of_nonneg (by omega)]; exact hb⟩
      unfold cntOf
      have : 0 < q.countP (isE false a x.fr.toNat x.kd.toNat) := List.countP_pos_iff.2 ⟨x, hx, by simp only [isE, Bool.false_eq_true, if_false, decide_eq_true_eq]; omega⟩
      omega
  · show _ ↔ z ∈ keysL _
    rw [mem_keysL, List.mem_map]
    constructor
    · rintro ⟨c, k, hc, hk, rfl, h1, h2⟩
      unfold cntOf at h1
      have h3 : 0 < q.countP (isE true a c k) := by omega
      obtain ⟨x, hx, he⟩ := List.countP_pos_iff.1 h3
      simp only [isE, if_true, decide_eq_true_eq] at he
      refine ⟨x, ?_, he.2.1⟩
      unfold ofA
      rw [List.mem_filter, List.mem_filter, beq_iff_eq]
      exact ⟨⟨hx, by rw [he.2.2]; exact h2⟩, he.1⟩
    · rintro ⟨x, hx, rfl⟩
      unfold ofA at hx
      rw [List.mem_filter, List.mem_filter, beq_iff_eq] at hx
      obtain ⟨⟨hx, hb⟩, he⟩ := hx
      have hxr := hq.1 x hx
      unfold rightO at hxr
      refine ⟨x.to.toNat, x.kd.toNat, by omega, by omega, by omega, ?_, by rw [Int.toNat_of_nonneg (by omega)]; exact hb⟩
      unfold cntOf
      have : 0 < q.countP (isE true a x.to.toNat x.kd.toNat) := List.countP_pos_iff.2 ⟨x, hx, by simp only [isE, if_true, decide_eq_true_eq]; omega⟩
      omega
end Go.Proofs.Ytpgfkggfgkafjaa.Gr
