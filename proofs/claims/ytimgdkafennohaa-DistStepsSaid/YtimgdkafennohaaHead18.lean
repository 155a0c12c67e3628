/-
  Contracts of small functions, several texts laid into one. Not a statement of the seat.
-/
import Derived.Test.YtimgdkafennohaaGrN
import Derived.Test.YtimgdkafennohaaHead1
namespace Go.Proofs.Ytimgdkafennohaa.Gr
open Go.ChangeShapes Go.WideShapes Go.ChangeAt Go.RowKit Base Ro F Dl Ln Rf
def ofA (q : List Arc) (mask : Int) : List Arc := q.filter fun x => rbit mask x.kd
theorem sel_eq {n : Nat} (hn : n ≤ 4096) {q : List Arc} (hq : GoodA n q) (p : Nat → Bool) (r : Arc → Bool) (h : ∀ x ∈ q, p (numA x) = r x) : ((q.map numA).filter p).map arcX = q.filter r := by
  rw [List.filter_map, List.map_map]
  have e : q.filter (p ∘ numA) = q.filter r := List.filter_congr fun x hx => h x hx
  rw [e]
  conv => rhs; rw [← List.map_id (q.filter r)]
  refine List.map_congr_left fun x hx => ?_
  exact arcX_numA hn (hq.1 x (List.mem_filter.1 hx).1)
theorem kd_bit {n : Nat} (hn : n ≤ 4096) {x : Arc} (hx : rightO n x) (mask : Int) : 1 ≤ kdN (numA x) ∧ kdN (numA x) < 4 ∧ mbit mask (kdN (numA x)) = rbit mask x.kd := by
  have h := right_b hn hx
  rw [numA_kd hn hx, mbit_rbit mask _ (by omega), Int.toNat_of_nonneg (by omega)]
  exact ⟨by omega, by omega, rfl⟩
theorem arcs_eq {n : Nat} (hn : n ≤ 4096) {q : List Arc} (hq : GoodA n q) (mask : Int) : arcsT (q.map numA) mask n = ofA q mask := by
  rw [arcsT_filter hq.2]
  refine sel_eq hn hq _ _ fun x hx => ?_
  obtain ⟨h1, _, h3⟩ := kd_bit hn (hq.1 x hx) mask
  have hr := hq.1 x hx
  rw [h3, numA_fr hn hr, decide_eq_true, Bool.true_and]
  unfold rightO at hr
  exact ⟨by omega, h1⟩
theorem outs_eq {n : Nat} (hn : n ≤ 4096) {q : List Arc} (hq : GoodA n q) (mask : Int) (a : Nat) : outT (q.map numA) a mask 4 = (ofA q mask).filter fun x => x.fr == (a : Int) := by
  rw [outT_filter hq.2 a mask 4 (by omega)]
  unfold ofA
  rw [List.filter_filter]
  refine sel_eq hn hq _ _ fun x hx => ?_
  obtain ⟨h1, h2, h3⟩ := kd_bit hn (hq.1 x hx) mask
  have hr := hq.1 x hx
  have hb := right_b hn hr
  rw [h3, numA_fr hn hr]
  congr 1
  rw [Bool.eq_iff_iff, decide_eq_true_iff, beq_iff_eq]
  omega
theorem ofA_good {n : Nat} {q : List Arc} (hq : GoodA n q) (mask : Int) : ∀ x ∈ ofA q mask, rightO n x := fun x hx => hq.1 x (List.mem_filter.1 hx).1
/-- A node out of sight has none. -/
theorem outs_none {n : Nat} {l : List Arc} (h : ∀ x ∈ l, rightO n x) {a : Int} (ha : ¬ (0 ≤ a ∧ a < (n : Int))) : (l.filter fun x => x.fr == a) = [] ∧ (l.filter fun x => x.to == a) = [] := by
  constructor <;>
  · rw [List.filter_eq_nil_iff]
    intro x hx
    have := h x hx
    unfold rightO at this
    rw [beq_iff_eq]
    intro e
    omega
theorem sideO_none {n : Nat} {l : List Arc} (h : ∀ x ∈ l, rightO n x) {a : Int} (ha : ¬ (0 ≤ a ∧ a < (n : Int))) (back : Bool) : sideO l a back = [] := by
  unfold sideO
  rw [(outs_none h ha).1, (outs_none h ha).2]
  cases back <;> rfl
theorem canK_mem_iff (cnt : Nat → Nat → Int) (l : List Nat) (x : Lk) : x ∈ canK cnt l ↔ ∃ c, c ∈ l ∧ bitsOf (cnt c) ≠ 0 ∧ x = lnk cnt c := by
  unfold canK
  rw [List.mem_flatMap]
  constructor
  · rintro ⟨c, hc, hx⟩
    unfold entK at hx
    split at hx
    · cases hx
    · rename_i hne
      exact ⟨c, hc, hne, by simpa using hx⟩
  · rintro ⟨c, hc, hne, rfl⟩
    exact ⟨c, hc, by unfold entK; rw [if_neg hne]; simp⟩
theorem pw_map_filter {ks : List Lk} {p : Lk → Bool} (h : ks.Pairwise (fun x y => x.nd < y.nd)) : Rises ((ks.filter p).map (·.nd)) := by
  unfold Rises
  rw [List.pairwise_map]
  exact h.sublist List.filter_sublist
theorem bits_and_zero (mask : Int) : bits .and .i64 0 mask = 0 := by
  rw [and_zero]
  simp
/-- Who is on a side, by counts. -/
theorem side_mem (cnt : Bool → Nat → Nat → Nat → Int) (s : Bool) (n a : Nat) (mask : Int) (z : Int) : z ∈ sideL cnt s n a mask ↔ ∃ c k : Nat, c < n ∧ k < 4 ∧ z = (c : Int) ∧ 0 < cnt s a c k ∧ rbit mask (k : Int) = true := by
  unfold sideL ofK
  rw [List.mem_map]
  constructor
  · rintro ⟨x, hx, rfl⟩
    rw [List.mem_filter, canK_mem_iff] at hx
    obtain ⟨⟨c, hc, _, rfl⟩, hk⟩ := hx
    rw [List.mem_range] at hc
    unfold keepK at hk
    have hk : (!decide (bits .and .i64 (bitsOf (cnt s a c)) mask = 0)) = true := hk
    have hne : bits .and .i64 (bitsOf (cnt s a c)) mask ≠ 0 := by rw [Bool.not_eq_true', decide_eq_false_iff_not] at hk; exact hk
    obtain ⟨k, h1, h2, h3⟩ := (keep_iff (cnt s a c) mask).1 hne
    exact ⟨c, k, hc, h1, rfl, h2, h3⟩
  · rintro ⟨c, k, hc, hk, rfl, h2, h3⟩
    have hne := (keep_iff (cnt s a c) mask).2 ⟨k, hk, h2, h3⟩
    refine ⟨lnk (cnt s a) c, ?_, rfl⟩
    rw [List.mem_filter, canK_mem_iff]
    refine ⟨⟨c, List.mem_range.2 hc, fun e => hne (by rw [e]; exact bits_and_zero mask), rfl⟩, ?_⟩
    show (!decide (bits .and .i64 (bitsOf (cnt s a c)) mask = 0)) = true
    rw [Bool.not_eq_true', decide_eq_false_iff_not]
    exact hne
theorem side_rises (cnt : Bool → Nat → Nat → Nat → Int) (s : Bool) (n a : Nat) (mask : Int) : Rises (sideL cnt s n a mask) := pw_map_filter (canK_pw _ _ (range_lt n))
theorem sides_eq {n : Nat} {q : List Arc} (hq : GoodA n q) (mask : Int) (s : Bool) (a : Nat) : sideL (cntOf q) s n a mask = sideO (ofA q mask) (a : Int) (!s) := by
  have hr : Rises (sideO (ofA q mask) (a : Int) (!s)) := by unfold sideO; cases s <;> exact keysL_rises _
  refine rises_ext (side_rises _ _ _ _ _) hr fun z => ?_
  rw [side_mem]
  cases s
  · show _ ↔ z ∈ keysL _
    rw [mem_keysL, List.mem_map]
    constructor
    · rintro ⟨c, k, hc, hk, rfl, h1, h2⟩
      unfold cntOf at h1
      have h3 : 0 < q.countP (isE false a c k) := by omega
      obtain ⟨x, hx, he⟩ := List.countP_pos_iff.1 h3
      simp only [isE, Bool.false_eq_true, if_false, decide_eq_true_eq] at he
      refine ⟨x, ?_, he.2.1⟩
      unfold ofA
      rw [List.mem_filter, List.mem_filter, beq_iff_eq]
      exact ⟨⟨hx, by rw [he.2.2]; exact h2⟩, he.1⟩
    · rintro ⟨x, hx, rfl⟩
      unfold ofA at hx
      rw [List.mem_filter, List.mem_filter, beq_iff_eq] at hx
      obtain ⟨⟨hx, hb⟩, he⟩ := hx
      have hxr := hq.1 x hx
      unfold rightO at hxr
      refine ⟨x.fr.toNat, x.kd.toNat, by omega, by omega, by omega, ?_, by rw [Int.toNat_of_nonneg (by omega)]; exact hb⟩
      unfold cntOf
      have : 0 < q.countP (isE false a x.fr.toNat x.kd.toNat) := List.countP_pos_iff.2 ⟨x, hx, by simp only [isE, Bool.false_eq_true, if_false, decide_eq_true_eq]; omega⟩
      omega
  · show _ ↔ z ∈ keysL _
    rw [mem_keysL, List.mem_map]
    constructor
    · rintro ⟨c, k, hc, hk, rfl, h1, h2⟩
      unfold cntOf at h1
      have h3 : 0 < q.countP (isE true a c k) := by omega
      obtain ⟨x, hx, he⟩ := List.countP_pos_iff.1 h3
      simp only [isE, if_true, decide_eq_true_eq] at he
      refine ⟨x, ?_, he.2.1⟩
      unfold ofA
      rw [List.mem_filter, List.mem_filter, beq_iff_eq]
      exact ⟨⟨hx, by rw [he.2.2]; exact h2⟩, he.1⟩
    · rintro ⟨x, hx, rfl⟩
      unfold ofA at hx
      rw [List.mem_filter, List.mem_filter, beq_iff_eq] at hx
      obtain ⟨⟨hx, hb⟩, he⟩ := hx
      have hxr := hq.1 x hx
      unfold rightO at hxr
      refine ⟨x.to.toNat, x.kd.toNat, by omega, by omega, by omega, ?_, by rw [Int.toNat_of_nonneg (by omega)]; exact hb⟩
      unfold cntOf
      have : 0 < q.countP (isE true a x.to.toNat x.kd.toNat) := List.countP_pos_iff.2 ⟨x, hx, by simp only [isE, if_true, decide_eq_true_eq]; omega⟩
      omega
end Go.Proofs.Ytimgdkafennohaa.Gr
namespace Go.Proofs.Ytimgdkafennohaa.Gr
open Go.ChangeShapes Go.WideShapes Go.ChangeAt Go.RowKit Base Ro F Dl Ln Rf
/-- A digraph of n nodes whose arcs are q. -/
def GQ (w : World) (B b n : Nat) (q : List Arc) (nbs : Bool → Nat) : Prop := GoodA n q ∧ ∃ Vs, GS w B b n (q.map numA) nbs Vs (cntOf q)
theorem GQ.below {w w' : World} {B b n : Nat} {q : List Arc} {nbs : Bool → Nat} (h : GQ w B b n q nbs) (hb : Below w.heap.size w w') : GQ w' B b n q nbs := by
  obtain ⟨h1, Vs, h2⟩ := h
  exact ⟨h1, Vs, h2.below hb⟩
theorem right_iff (n : Nat) (a : Arc) : rightA n a.fr a.to a.kd a.lb ↔ rightO n a := by
  unfold rightA rightO
  omega
/-- A right arc's parts, as Nats. -/
theorem right_nat {n : Nat} {a : Arc} (h : rightO n a) : ∃ f t k l : Nat, a = ⟨(f : Int), (t : Int), (k : Int), (l : Int)⟩ ∧ f < n ∧ t < n ∧ 1 ≤ k ∧ k < 4 ∧ l ≤ 1048575 := by
  unfold rightO at h
  obtain ⟨x0, x1, x2, x3⟩ := a
  dsimp only at h
  obtain ⟨f, rfl⟩ := Int.eq_ofNat_of_zero_le h.1.1
  obtain ⟨t, rfl⟩ := Int.eq_ofNat_of_zero_le h.2.1.1
  obtain ⟨k, rfl⟩ := Int.eq_ofNat_of_zero_le (show 0 ≤ x2 by omega)
  obtain ⟨l, rfl⟩ := Int.eq_ofNat_of_zero_le h.2.2.2.1
  exact ⟨f, t, k, l, rfl, by omega, by omega, by omega, by omega, by omega⟩
def addE (n : Nat) (q : List Arc) (a : Arc) : Int := if rightO n a then (if a ∈ q then 4 else 0) else 1
def addL (n : Nat) (q : List Arc) (a : Arc) : List Arc := if rightO n a ∧ a ∉ q then goA a false q else q
theorem addL_len (n : Nat) (q : List Arc) (a : Arc) : (addL n q a).length ≤ q.length + 1 := by
  unfold addL
  split
  · rename_i h
    have := (goA_perm h.2).length_eq
    rw [this]; simp
  · omega
theorem add_q {w : World} {B b n : Nat} {q : List Arc} {nbs : Bool → Nat} (h : GQ w B b n q nbs) (hn : n ≤ 4096) (hl : q.length < 499) (a : Arc) :
    Calls Try.prog 13 #[.pointer (some ⟨b, 0, none⟩), vA a] w fun e w' => e = .returned (.int .i64 (addE n q a)) ∧ GQ w' B b n (addL n q a) nbs ∧ Fr (AF w B b nbs) w w' := by
  obtain ⟨hq, Vs, hs⟩ := h
  unfold addE addL
  by_cases hr : rightO n a
  · by_cases hm : a ∈ q
    · rw [if_pos hr, if_pos hm, if_neg (fun hh => hh.2 hm)]
      have hx := (num_in hn hq hr).2 hm
      obtain ⟨f, t, k, l, rfl, h1, h2, h3, h4, h5⟩ := right_nat hr
      refine (add_there hs hn (f := f) (t := t) (k := k) (l := l) ((right_iff n _).2 hr) hx).mono ?_
      rintro e w' ⟨rfl, hb⟩
      exact ⟨rfl, GQ.below ⟨hq, Vs, hs⟩ hb, Fr.of_below hb⟩
    · rw [if_pos hr, if_neg hm, if_pos ⟨hr, hm⟩]
      have hx : numA a ∉ q.map numA := fun e => hm ((num_in hn hq hr).1 e)
      have e1 := put_num hn hq hr hm
      have e2 := cnt_put hr hm
      have e3 := put_good hn hq hr hm
      obtain ⟨f, t, k, l, rfl, h1, h2, h3, h4, h5⟩ := right_nat hr
      refine (add_new hs hn (by rw [List.length_map]; exact hl) h1 h2 h3 h4 h5 hx (fun s a c j => by have := cnt_le q s a c j; omega)).mono ?_
      rintro e w' ⟨rfl, ⟨Vs', hs'⟩, hf⟩
      refine ⟨rfl, ⟨e3, Vs', ?_⟩, hf⟩
      rw [← e1, ← e2]
      exact hs'
  · rw [if_neg hr, if_neg (fun hh => hr hh.1)]
    refine (add_bad hs.v (f := a.fr) (t := a.to) (k := a.kd) (l := a.lb) (fun hh => hr ((right_iff n a).1 hh))).mono ?_
    rintro e w' ⟨rfl, hb⟩
    exact ⟨rfl, GQ.below ⟨hq, Vs, hs⟩ hb, Fr.of_below hb⟩
theorem has_q {w : World} {B b n : Nat} {q : List Arc} {nbs : Bool → Nat} (h : GQ w B b n q nbs) (hn : n ≤ 4096) (a : Arc) :
    Calls Try.prog 9 #[.pointer (some ⟨b, 0, none⟩), vA a] w (HeldP (.bool (decide (a ∈ q))) w) := by
  obtain ⟨hq, Vs, hs⟩ := h
  by_cases hr : rightO n a
  · have hx := num_in hn hq hr
    have e : decide (a ∈ q) = decide (numA a ∈ q.map numA) := by rw [decide_eq_decide]; exact hx.symm
    rw [e]
    obtain ⟨f, t, k, l, rfl, h1, h2, h3, h4, h5⟩ := right_nat hr
    exact has_any hs hn (f := f) (t := t) (k := k) (l := l) ((right_iff n _).2 hr)
  · rw [decide_eq_false (fun hm => hr (hq.1 a hm))]
    exact has_bad hs.v (f := a.fr) (t := a.to) (k := a.kd) (l := a.lb) (fun hh => hr ((right_iff n a).1 hh))
theorem nodes_q {w : World} {B b n : Nat} {q : List Arc} {nbs : Bool → Nat} (h : GQ w B b n q nbs) : Calls Try.prog 24 #[.pointer (some ⟨b, 0, none⟩)] w (HeldP (.int .i64 (n : Int)) w) := by
  obtain ⟨hq, Vs, hs⟩ := h
  exact nodes_any hs.v
theorem out_q {w : World} {B b n : Nat} {q : List Arc} {nbs : Bool → Nat} (h : GQ w B b n q nbs) (hn : n ≤ 4096) (mask a : Int) : Calls Try.prog 18 #[.pointer (some ⟨b, 0, none⟩), .int .i64 a, .int .i64 mask] w (GatP w ((ofA q mask).filter fun x => x.fr == a)) := by
  obtain ⟨hq, Vs, hs⟩ := h
  by_cases ha : 0 ≤ a ∧ a < (n : Int)
  · obtain ⟨k, rfl⟩ := Int.eq_ofNat_of_zero_le ha.1
    rw [← outs_eq hn hq]
    exact out_in hs hn (by omega) mask
  · rw [(outs_none (ofA_good hq mask) ha).1]
    refine (out_out hs.v ha mask).mono ?_
    rintro e w' ⟨rfl, hb⟩
    exact ⟨_, rfl, OwnArc.nil _ _, hb⟩
/-- What a call that tells a list of numbers leaves. -/
def NumsP (w : World) (zs : List Int) (e : Ending) (w' : World) : Prop := ∃ v, e = .returned v ∧ Lst.OwnI w.heap.size w' v zs ∧ Below w.heap.size w w'
theorem next_q {w : World} {B b n : Nat} {q : List Arc} {nbs : Bool → Nat} (h : GQ w B b n q nbs) (hn : n ≤ 4096) (mask a : Int) : Calls Try.prog 7 #[.pointer (some ⟨b, 0, none⟩), .int .i64 a, .int .i64 mask] w (NumsP w (sideO (ofA q mask) a false)) := by
  obtain ⟨hq, Vs, hs⟩ := h
  by_cases ha : 0 ≤ a ∧ a < (n : Int)
  · obtain ⟨k, rfl⟩ := Int.eq_ofNat_of_zero_le ha.1
    have e := sides_eq hq mask true k
    rw [show (!true) = false from rfl] at e
    rw [← e]
    refine (next_in hs hn (a := k) (by omega) mask).mono ?_
    rintro e w' ⟨⟨v, he, ho⟩, hb⟩
    exact ⟨v, he, ho, hb⟩
  · rw [sideO_none (ofA_good hq mask) ha]
    refine (next_out hs.v ha mask).mono ?_
    rintro e w' ⟨rfl, hb⟩
    exact ⟨_, rfl, Lst.OwnI.nil _ _, hb⟩
theorem prev_q {w : World} {B b n : Nat} {q : List Arc} {nbs : Bool → Nat} (h : GQ w B b n q nbs) (hn : n ≤ 4096) (mask a : Int) : Calls Try.prog 44 #[.pointer (some ⟨b, 0, none⟩), .int .i64 a, .int .i64 mask] w (NumsP w (sideO (ofA q mask) a true)) := by
  obtain ⟨hq, Vs, hs⟩ := h
  by_cases ha : 0 ≤ a ∧ a < (n : Int)
  · obtain ⟨k, rfl⟩ := Int.eq_ofNat_of_zero_le ha.1
    have e := sides_eq hq mask false k
    rw [show (!false) = true from rfl] at e
    rw [← e]
    refine (prev_in hs hn (a := k) (by omega) mask).mono ?_
    rintro e w' ⟨⟨v, he, ho⟩, hb⟩
    exact ⟨v, he, ho, hb⟩
  · rw [sideO_none (ofA_good hq mask) ha]
    refine (prev_out hs.v ha mask).mono ?_
    rintro e w' ⟨rfl, hb⟩
    exact ⟨_, rfl, Lst.OwnI.nil _ _, hb⟩
/-- What New leaves. -/
def NewQ (w : World) (m : Nat) (e : Ending) (w' : World) : Prop := ∃ b nbs, e = .returned (.pointer (some ⟨b, 0, none⟩)) ∧ GQ w' w.heap.size b m [] nbs ∧ (w.heap.size ≤ b ∧ ∀ s, w.heap.size ≤ nbs s) ∧ Below w.heap.size w w'
theorem cntOf_nil : cntOf [] = zeroC := rfl
theorem new_q (n : Int) (w : World) : Calls Try.prog 12 #[.int .i64 n] w (NewQ w (roomL n)) := by
  refine (grnew n w).mono ?_
  rintro e w' ⟨b, nbs, Vs, he, hs, h1, h2⟩
  exact ⟨b, nbs, he, ⟨⟨(fun x hx => by cases hx), by simp⟩, Vs, by rw [cntOf_nil]; exact hs⟩, h1, h2⟩
/-- What a change leaves below the digraph's own blocks. -/
theorem GQ.keep {w w' : World} {B b n : Nat} {q : List Arc} {nbs : Bool → Nat} (hq : GQ w B b n q nbs) (h : Fr (AF w B b nbs) w w') (hb : B ≤ b) (hn : ∀ s, B ≤ nbs s) : Below B w w' := by
  obtain ⟨_, Vs, hs⟩ := hq
  refine h.below (fun g hg => ?_) hs.hB
  rcases hg with rfl | ⟨s, rfl⟩ | ⟨h1, _⟩
  · exact hb
  · exact hn s
  · exact h1
/-- A block of another kind stays. -/
theorem GQ.other {w w' : World} {B b n g : Nat} {q : List Arc} {nbs : Bool → Nat} {cs : Array Value} {T : TypeId} (hq : GQ w B b n q nbs) (h : Fr (AF w B b nbs) w w') (hg : w.heap[g]? = some (Obj.cells cs T (0, 0))) (hT : T ≠ 56 ∧ T ≠ 78 ∧ T ≠ 73 ∧ T ≠ 45 ∧ T ≠ 51) : w'.heap[g]? = w.heap[g]? := by
  obtain ⟨_, Vs, hs⟩ := hq
  refine af_box h hg (fun e => ?_) (fun s e => ?_) ⟨hT.1, hT.2.1, hT.2.2.1⟩
  · obtain ⟨V, h1, _⟩ := hs.own
    rw [← e, hg] at h1
    simp only [grB, Option.some.injEq, Obj.cells.injEq] at h1
    exact hT.2.2.2.2 h1.2.1
  · have := hs.row s
    rw [← e, hg] at this
    simp only [Option.some.injEq, Obj.cells.injEq] at this
    exact hT.2.2.2.1 this.2.1
end Go.Proofs.Ytimgdkafennohaa.Gr
namespace Go.Proofs.Ytimgdkafennohaa.Gr
open Go.ChangeShapes Go.WideShapes Go.ChangeAt Go.RowKit Base Ro F Dl Ln Rf
/-- The arcs that go out of the nodes ahead of u. -/
def allT (p : List Arc) : Nat → List Arc
  | 0 => []
  | u + 1 => allT p u ++ p.filter fun x => x.fr == (u : Int)
theorem allT_arcs {n : Nat} (hn : n ≤ 4096) {q : List Arc} (hq : GoodA n q) (mask : Int) : ∀ u, allT (ofA q mask) u = arcsT (q.map numA) mask u
  | 0 => rfl
  | u + 1 => by rw [allT, arcsT, allT_arcs hn hq mask u, outs_eq hn hq mask u]
theorem allT_all {n : Nat} (hn : n ≤ 4096) {q : List Arc} (hq : GoodA n q) (mask : Int) : allT (ofA q mask) n = ofA q mask := by
  rw [allT_arcs hn hq, arcs_eq hn hq]
theorem allT_len {n : Nat} (hn : n ≤ 4096) {q : List Arc} (hq : GoodA n q) (mask : Int) (u : Nat) : (allT (ofA q mask) u).length ≤ q.length := by
  rw [allT_arcs hn hq]
  have := arcsT_len hq.2 mask u
  rwa [List.length_map] at this
theorem ofA_len (q : List Arc) (mask : Int) : (ofA q mask).length ≤ q.length := List.length_filter_le _ _
theorem sideO_len (p : List Arc) (a : Int) (back : Bool) : (sideO p a back).length ≤ p.length := by
  unfold sideO
  cases back
  · exact Nat.le_trans (keysL_len _) (by rw [List.length_map]; exact List.length_filter_le _ _)
  · exact Nat.le_trans (keysL_len _) (by rw [List.length_map]; exact List.length_filter_le _ _)
theorem mem_next {p : List Arc} {a z : Int} : z ∈ sideO p a false ↔ ∃ x ∈ p, x.fr = a ∧ x.to = z := by
  unfold sideO
  rw [if_neg (by simp), mem_keysL, List.mem_map]
  constructor
  · rintro ⟨x, hx, rfl⟩
    rw [List.mem_filter, beq_iff_eq] at hx
    exact ⟨x, hx.1, hx.2, rfl⟩
  · rintro ⟨x, hx, h1, rfl⟩
    exact ⟨x, List.mem_filter.2 ⟨hx, beq_iff_eq.2 h1⟩, rfl⟩
theorem mem_prev {p : List Arc} {a z : Int} : z ∈ sideO p a true ↔ ∃ x ∈ p, x.to = a ∧ x.fr = z := by
  unfold sideO
  rw [if_pos rfl, mem_keysL, List.mem_map]
  constructor
  · rintro ⟨x, hx, rfl⟩
    rw [List.mem_filter, beq_iff_eq] at hx
    exact ⟨x, hx.1, hx.2, rfl⟩
  · rintro ⟨x, hx, h1, rfl⟩
    exact ⟨x, List.mem_filter.2 ⟨hx, beq_iff_eq.2 h1⟩, rfl⟩
/-- From both sides. -/
theorem sides_both (p : List Arc) (u v : Int) : decide (v ∈ sideO p u false) = decide (u ∈ sideO p v true) := by
  rw [decide_eq_decide, mem_next, mem_prev]
  constructor
  · rintro ⟨x, hx, h1, h2⟩; exact ⟨x, hx, h2, h1⟩
  · rintro ⟨x, hx, h1, h2⟩; exact ⟨x, hx, h2, h1⟩
theorem all14 {n : Nat} (hn : n ≤ 4096) {q : List Arc} (hq : GoodA n q) : ofA q 14 = q := by
  unfold ofA
  rw [List.filter_eq_self]
  intro x hx
  have := right_b hn (hq.1 x hx)
  have h3 : x.kd = 1 ∨ x.kd = 2 ∨ x.kd = 3 := by omega
  rcases h3 with h | h | h <;> rw [h] <;> decide +kernel
end Go.Proofs.Ytimgdkafennohaa.Gr
namespace Go.Proofs.Ytimgdkafennohaa.Ds
open F Gr
/-- Who leads to a place, when no arc is of the must. -/
def pvE (pr : Nat → List Nat) (p : Nat) : List Nat := (pr (p / 2)).map (fun t => 2 * t + p % 2)
/-- Which place a search begins at: one that may not be, if the node is none. -/
def startP (n : Nat) (a : Int) : Nat := if 0 ≤ a ∧ a < (n : Int) then 2 * a.toNat else 2 * n
/-- How many arcs are left from nodes. -/
structure IsN (n : Nat) (least : Int) (pr : Nat → List Nat) (a : Int) (f : Nat → Option Nat) : Prop where
  okd : ∀ (v k : Nat), f v = some k → v < n ∧ least ≤ (v : Int)
  zero : ∀ (v k : Nat), f v = some k → (k = 0 ↔ (v : Int) = a)
  wit : ∀ v k, f v = some (k + 1) → ∃ u, f u = some k ∧ v ∈ pr u
  near : ∀ v k, f v = some k → ∀ u ∈ pr v, u < n → least ≤ (u : Int) → ∃ m, f u = some m ∧ m ≤ k + 1
  start : ∀ v : Nat, (v : Int) = a → v < n → least ≤ a → f v = some 0
theorem IsN.of {n : Nat} {least : Int} {pr : Nat → List Nat} {a : Int} {d : Nat → Option Nat} {ok : Nat → Bool} (hok : ∀ p, ok p = true ↔ (least ≤ ((p / 2 : Nat) : Int) ∧ p / 2 < n)) (h : IsD ok (pvE pr) (startP n a) d) : IsN n least pr a (fun v => d (2 * v)) := by
  refine ⟨fun v k hv => ?_, fun v k hv => ?_, fun v k hv => ?_, fun v k hv u hu hn hl => ?_, fun v hv hn hl => ?_⟩
  · have := (hok _).1 (h.okd _ _ hv)
    rw [show 2 * v / 2 = v by omega] at this
    exact ⟨this.2, this.1⟩
  · have h1 := (hok _).1 (h.okd _ _ hv)
    rw [h.zero _ _ hv]
    unfold startP
    split <;> omega
  · obtain ⟨y, hy, hm⟩ := h.wit _ _ hv
    unfold pvE at hm
    rw [List.mem_map] at hm
    obtain ⟨t, ht, he⟩ := hm
    have e1 : t = v := by omega
    subst e1
    exact ⟨y / 2, by show d (2 * (y / 2)) = _; rw [show 2 * (y / 2) = y by omega]; exact hy, ht⟩
  · refine h.near _ _ hv (2 * u) ?_ ((hok _).2 (by rw [show 2 * u / 2 = u by omega]; exact ⟨hl, hn⟩))
    unfold pvE
    rw [List.mem_map, show 2 * v / 2 = v by omega]
    exact ⟨u, hu, by omega⟩
  · have := h.start ((hok _).2 (by unfold startP; split <;> omega))
    have e : startP n a = 2 * v := by unfold startP; split <;> omega
    rw [e] at this
    exact this
/-- Arcs one behind the other. -/
def ChainA : Int → List Arc → Int → Prop
  | u, [], v => u = v
  | u, a :: l, v => a.fr = u ∧ ChainA a.to l v
theorem ChainA.snoc : ∀ {u v : Int} {l : List Arc} {a : Arc}, ChainA u l v → a.fr = v → ChainA u (l ++ [a]) a.to
  | _, _, [], _, h, ha => ⟨ha.trans h.symm, rfl⟩
  | _, _, _ :: _, _, h, ha => ⟨h.1, ChainA.snoc h.2 ha⟩
/-- The node that a walk is at behind so many arcs. -/
def atA (u : Int) (l : List Arc) : Int := match l.getLast? with | none => u | some a => a.to
theorem ChainA.at_ : ∀ {u v : Int} {l : List Arc}, ChainA u l v → atA u l = v
  | _, _, [], h => h
  | u, v, a :: l, h => by
    have := ChainA.at_ h.2
    unfold atA at this ⊢
    rw [List.getLast?_cons]
    cases e : l.getLast? with
    | none => rw [e] at this; simpa using this
    | some b => rw [e] at this; simpa using this
theorem ChainA.take : ∀ {u v : Int} {l : List Arc} (i : Nat), ChainA u l v → ChainA u (l.take i) (atA u (l.take i))
  | u, _, l, 0, _ => rfl
  | u, _, [], i + 1, _ => rfl
  | u, v, a :: l, i + 1, h => by
    have h2 := ChainA.take i h.2
    have h3 : ChainA u (a :: l.take i) (atA a.to (l.take i)) := ⟨h.1, h2⟩
    rw [List.take_succ_cons]
    rw [h3.at_]
    exact h3
theorem ChainA.fr_at {u v : Int} {l : List Arc} (h : ChainA u l v) : ∀ {i : Nat} (hi : i < l.length), l[i].fr = atA u (l.take i) := by
  induction l generalizing u with
  | nil => intro i hi; exact absurd hi (by simp)
  | cons a l ih =>
    intro i hi
    cases i with
    | zero => exact h.1
    | succ i =>
      have e1 := ih h.2 (i := i) (by simpa using hi)
      have h3 : ChainA u (a :: l.take i) (atA a.to (l.take i)) := ⟨h.1, ChainA.take i h.2⟩
      rw [List.take_succ_cons, h3.at_]
      exact e1
theorem atA_snoc (u : Int) (l : List Arc) (a : Arc) : atA u (l ++ [a]) = a.to := by
  unfold atA
  rw [List.getLast?_concat]
/-- Who leads to a node by arcs. -/
def prN (p : List Arc) (v : Nat) : List Nat := (sideO p (v : Int) true).map Int.toNat
theorem mem_prN {n : Nat} {p : List Arc} (hp : ∀ x ∈ p, rightO n x) {u v : Nat} : u ∈ prN p v ↔ ∃ x ∈ p, x.fr = (u : Int) ∧ x.to = (v : Int) := by
  unfold prN
  rw [List.mem_map]
  constructor
  · rintro ⟨z, hz, rfl⟩
    obtain ⟨x, hx, h1, h2⟩ := mem_prev.1 hz
    have := hp x hx
    unfold rightO at this
    exact ⟨x, hx, by omega, h1⟩
  · rintro ⟨x, hx, h1, h2⟩
    exact ⟨(u : Int), mem_prev.2 ⟨x, hx, h2, h1⟩, by omega⟩
theorem prN_cast {n : Nat} {p : List Arc} (hp : ∀ x ∈ p, rightO n x) (v : Nat) : sideO p (v : Int) true = (prN p v).map fun (x : Nat) => (x : Int) := by
  unfold prN
  rw [List.map_map]
  conv => lhs; rw [← List.map_id (sideO p (v : Int) true)]
  refine List.map_congr_left fun z hz => ?_
  obtain ⟨x, hx, _, h2⟩ := mem_prev.1 hz
  have := hp x hx
  unfold rightO at this
  show z = ((z.toNat : Nat) : Int)
  omega
/-- From a node that is not the end, one arc goes to one from which there is one arc less. -/
theorem IsN.arc {n : Nat} {p : List Arc} (hp : ∀ x ∈ p, rightO n x) {least a : Int} {f : Nat → Option Nat} (h : IsN n least (prN p) a f) {u k : Nat} (hu : f u = some (k + 1)) : ∃ x ∈ p, x.fr = (u : Int) ∧ f x.to.toNat = some k ∧ 0 ≤ x.to := by
  obtain ⟨v, hv, hm⟩ := h.wit u k hu
  obtain ⟨x, hx, h1, h2⟩ := (mem_prN hp).1 hm
  exact ⟨x, hx, h1, by rw [h2, Int.toNat_natCast]; exact hv, by omega⟩
end Go.Proofs.Ytimgdkafennohaa.Ds
