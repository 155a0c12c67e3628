/-
  Contracts of small functions, several texts laid into one. Not a statement of the seat.
-/
import Derived.Test.YtpgfkggfgkafjaaGrT
namespace Go.Proofs.Ytpgfkggfgkafjaa.Gr
open Go.ChangeShapes Go.WideShapes Go.ChangeAt Go.RowKit Base Ro F Dl Ln Rf
/-- A digraph of n nodes whose arcs are q. -/
def GQ (w : World) (B b n : Nat) (q : List Arc) (nbs : Bool → Nat) : Prop := GoodA n q ∧ ∃ Vs, GS w B b n (q.map numA) nbs Vs (cntOf q)
theorem GQ.below {w w' : World} {B b n : Nat} {q : List Arc} {nbs : Bool → Nat} (h : GQ w B b n q nbs) (hb : Below w.heap.size w w') : GQ w' B b n q nbs := by
  obtain ⟨h1, Vs, h2⟩ := h
  exact ⟨h1, Vs, h2.below hb⟩
theorem right_iff (n : Nat) (a : Arc) : rightA n a.fr a.to a.kd a.lb ↔ rightO n a := by
  unfold rightA rightO
  omega
/-- A right arc's parts, as Nats. -/
theorem right_nat {n : Nat} {a : Arc} (h : rightO n a) : ∃ f t k l : Nat, a = ⟨(f : Int), (t : Int), (k : Int), (l : Int)⟩ ∧ f < n ∧ t < n ∧ 1 ≤ k ∧ k < 4 ∧ l ≤ 1048575 := by
  unfold rightO at h
  obtain ⟨x0, x1, x2, x3⟩ := a
  dsimp only at h
  obtain ⟨f, rfl⟩ := Int.eq_ofNat_of_zero_le h.1.1
  obtain ⟨t, rfl⟩ := Int.eq_ofNat_of_zero_le h.2.1.1
  obtain ⟨k, rfl⟩ := Int.eq_ofNat_of_zero_le (show 0 ≤ x2 by omega)
  obtain ⟨l, rfl⟩ := Int.eq_ofNat_of_zero_le h.2.2.2.1
  exact ⟨f, t, k, l, rfl, by omega, by omega, by omega, by omega, by omega⟩
def addE (n : Nat) (q : List Arc) (a : Arc) : Int := if rightO n a then (if a ∈ q then 4 else 0) else 1
def addL (n : Nat) (q : List Arc) (a : Arc) : List Arc := if rightO n a ∧ a ∉ q then goA a false q else q
theorem addL_len (n : Nat) (q : List Arc) (a : Arc) : (addL n q a).length ≤ q.length + 1 := by
  unfold addL
  split
  · rename_i h
    have := (goA_perm h.2).length_eq
    rw [this]; simp
  · omega
theorem add_q {w : World} {B b n : Nat} {q : List Arc} {nbs : Bool → Nat} (h : GQ w B b n q nbs) (hn : n ≤ 4096) (hl : q.length < 499) (a : Arc) :
    Calls Try.prog 11 #[.pointer (some ⟨b, 0, none⟩), vA a] w fun e w' => e = .returned (.int .i64 (addE n q a)) ∧ GQ w' B b n (addL n q a) nbs ∧ Fr (AF w B b nbs) w w' := by
  obtain ⟨hq, Vs, hs⟩ := h
  unfold addE addL
  by_cases hr : rightO n a
  · by_cases hm : a ∈ q
    · rw [if_pos hr, if_pos hm, if_neg (fun hh => hh.2 hm)]
      have hx := (num_in hn hq hr).2 hm
      obtain ⟨f, t, k, l, rfl, h1, h2, h3, h4, h5⟩ := right_nat hr
      refine (add_there hs hn (f := f) (t := t) (k := k) (l := l) ((right_iff n _).2 hr) hx).mono ?_
      rintro e w' ⟨rfl, hb⟩
      exact ⟨rfl, GQ.below ⟨hq, Vs, hs⟩ hb, Fr.of_below hb⟩
    · rw [if_pos hr, if_neg hm, if_pos ⟨hr, hm⟩]
      have hx : numA a ∉ q.map numA := fun e => hm ((num_in hn hq hr).1 e)
      have e1 := put_num hn hq hr hm
      have e2 := cnt_put hr hm
      have e3 := put_good hn hq hr hm
      obtain ⟨f, t, k, l, rfl, h1, h2, h3, h4, h5⟩ := right_nat hr
      refine (add_new hs hn (by rw [List.length_map]; exact hl) h1 h2 h3 h4 h5 hx (fun s a c j => by have := cnt_le q s a c j; omega)).mono ?_
      rintro e w' ⟨rfl, ⟨Vs', hs'⟩, hf⟩
      refine ⟨rfl, ⟨e3, Vs', ?_⟩, hf⟩
      rw [← e1, ← e2]
      exact hs'
  · rw [if_neg hr, if_neg (fun hh => hr hh.1)]
    refine (add_bad hs.v (f := a.fr) (t := a.to) (k := a.kd) (l := a.lb) (fun hh => hr ((right_iff n a).1 hh))).mono ?_
    rintro e w' ⟨rfl, hb⟩
    exact ⟨rfl, GQ.below ⟨hq, Vs, hs⟩ hb, Fr.of_below hb⟩
theorem drop_q {w : World} {B b n : Nat} {q : List Arc} {nbs : Bool → Nat} (h : GQ w B b n q nbs) (hn : n ≤ 4096) (a : Arc) :
    Calls Try.prog 13 #[.pointer (some ⟨b, 0, none⟩), vA a] w fun e w' => e = .returned (.int .i64 (if a ∈ q then 0 else 3)) ∧ GQ w' B b n (dropA q a) nbs ∧ Fr (AF w B b nbs) w w' := by
  obtain ⟨hq, Vs, hs⟩ := h
  by_cases hm : a ∈ q
  · have hr := hq.1 a hm
    rw [if_pos hm]
    have hx := (num_in hn hq hr).2 hm
    have e1 := drop_num hn hq hr hm
    have e2 := cnt_drop hq hr hm
    have e3 := cnt_pos hr hm
    have e4 := drop_good hq a
    obtain ⟨f, t, k, l, rfl, h1, h2, h3, h4, h5⟩ := right_nat hr
    refine (drop_new hs hn h1 h2 h3 h4 h5 hx e3.1 e3.2).mono ?_
    rintro e w' ⟨rfl, ⟨Vs', hs'⟩, hf⟩
    refine ⟨rfl, ⟨e4, Vs', ?_⟩, hf⟩
    rw [← e1, ← e2]
    exact hs'
  · rw [if_neg hm, drop_none_ hm]
    by_cases hr : rightO n a
    · have hx : numA a ∉ q.map numA := fun e => hm ((num_in hn hq hr).1 e)
      obtain ⟨f, t, k, l, rfl, h1, h2, h3, h4, h5⟩ := right_nat hr
      refine (drop_none hs hn (f := f) (t := t) (k := k) (l := l) ((right_iff n _).2 hr) hx).mono ?_
      rintro e w' ⟨rfl, hb⟩
      exact ⟨rfl, GQ.below ⟨hq, Vs, hs⟩ hb, Fr.of_below hb⟩
    · refine (drop_bad hs.v (f := a.fr) (t := a.to) (k := a.kd) (l := a.lb) (fun hh => hr ((right_iff n a).1 hh))).mono ?_
      rintro e w' ⟨rfl, hb⟩
      exact ⟨rfl, GQ.below ⟨hq, Vs, hs⟩ hb, Fr.of_below hb⟩
theorem has_q {w : World} {B b n : Nat} {q : List Arc} {nbs : Bool → Nat} (h : GQ w B b n q nbs) (hn : n ≤ 4096) (a : Arc) :
    Calls Try.prog 17 #[.pointer (some ⟨b, 0, none⟩), vA a] w (HeldP (.bool (decide (a ∈ q))) w) := by
  obtain ⟨hq, Vs, hs⟩ := h
  by_cases hr : rightO n a
  · have hx := num_in hn hq hr
    have e : decide (a ∈ q) = decide (numA a ∈ q.map numA) := by rw [decide_eq_decide]; exact hx.symm
    rw [e]
    obtain ⟨f, t, k, l, rfl, h1, h2, h3, h4, h5⟩ := right_nat hr
    exact has_any hs hn (f := f) (t := t) (k := k) (l := l) ((right_iff n _).2 hr)
  · rw [decide_eq_false (fun hm => hr (hq.1 a hm))]
    exact has_bad hs.v (f := a.fr) (t := a.to) (k := a.kd) (l := a.lb) (fun hh => hr ((right_iff n a).1 hh))
theorem len_q {w : World} {B b n : Nat} {q : List Arc} {nbs : Bool → Nat} (h : GQ w B b n q nbs) : Calls Try.prog 16 #[.pointer (some ⟨b, 0, none⟩)] w (HeldP (.int .i64 (q.length : Int)) w) := by
  obtain ⟨hq, Vs, hs⟩ := h
  have := len_any hs.v
  rwa [List.length_map] at this
theorem nodes_q {w : World} {B b n : Nat} {q : List Arc} {nbs : Bool → Nat} (h : GQ w B b n q nbs) : Calls Try.prog 15 #[.pointer (some ⟨b, 0, none⟩)] w (HeldP (.int .i64 (n : Int)) w) := by
  obtain ⟨hq, Vs, hs⟩ := h
  exact nodes_any hs.v
theorem arcs_q {w : World} {B b n : Nat} {q : List Arc} {nbs : Bool → Nat} (h : GQ w B b n q nbs) (hn : n ≤ 4096) (mask : Int) : Calls Try.prog 19 #[.pointer (some ⟨b, 0, none⟩), .int .i64 mask] w (GatP w (ofA q mask)) := by
  obtain ⟨hq, Vs, hs⟩ := h
  rw [← arcs_eq hn hq]
  exact arcs_any hs hn mask
theorem out_q {w : World} {B b n : Nat} {q : List Arc} {nbs : Bool → Nat} (h : GQ w B b n q nbs) (hn : n ≤ 4096) (mask a : Int) : Calls Try.prog 20 #[.pointer (some ⟨b, 0, none⟩), .int .i64 a, .int .i64 mask] w (GatP w ((ofA q mask).filter fun x => x.fr == a)) := by
  obtain ⟨hq, Vs, hs⟩ := h
  by_cases ha : 0 ≤ a ∧ a < (n : Int)
  · obtain ⟨k, rfl⟩ := Int.eq_ofNat_of_zero_le ha.1
    rw [← outs_eq hn hq]
    exact out_in hs hn (by omega) mask
  · rw [(outs_none (ofA_good hq mask) ha).1]
    refine (out_out hs.v ha mask).mono ?_
    rintro e w' ⟨rfl, hb⟩
    exact ⟨_, rfl, OwnArc.nil _ _, hb⟩
/-- What a call that tells a list of numbers leaves. -/
def NumsP (w : World) (zs : List Int) (e : Ending) (w' : World) : Prop := ∃ v, e = .returned v ∧ Lst.OwnI w.heap.size w' v zs ∧ Below w.heap.size w w'
theorem next_q {w : World} {B b n : Nat} {q : List Arc} {nbs : Bool → Nat} (h : GQ w B b n q nbs) (hn : n ≤ 4096) (mask a : Int) : Calls Try.prog 23 #[.pointer (some ⟨b, 0, none⟩), .int .i64 a, .int .i64 mask] w (NumsP w (sideO (ofA q mask) a false)) := by
  obtain ⟨hq, Vs, hs⟩ := h
  by_cases ha : 0 ≤ a ∧ a < (n : Int)
  · obtain ⟨k, rfl⟩ := Int.eq_ofNat_of_zero_le ha.1
    have e := sides_eq hq mask true k
    rw [show (!true) = false from rfl] at e
    rw [← e]
    refine (next_in hs hn (a := k) (by omega) mask).mono ?_
    rintro e w' ⟨⟨v, he, ho⟩, hb⟩
    exact ⟨v, he, ho, hb⟩
  · rw [sideO_none (ofA_good hq mask) ha]
    refine (next_out hs.v ha mask).mono ?_
    rintro e w' ⟨rfl, hb⟩
    exact ⟨_, rfl, Lst.OwnI.nil _ _, hb⟩
theorem prev_q {w : World} {B b n : Nat} {q : List Arc} {nbs : Bool → Nat} (h : GQ w B b n q nbs) (hn : n ≤ 4096) (mask a : Int) : Calls Try.prog 25 #[.pointer (some ⟨b, 0, none⟩), .int .i64 a, .int .i64 mask] w (NumsP w (sideO (ofA q mask) a true)) := by
  obtain ⟨hq, Vs, hs⟩ := h
  by_cases ha : 0 ≤ a ∧ a < (n : Int)
  · obtain ⟨k, rfl⟩ := Int.eq_ofNat_of_zero_le ha.1
    have e := sides_eq hq mask false k
    rw [show (!false) = true from rfl] at e
    rw [← e]
    refine (prev_in hs hn (a := k) (by omega) mask).mono ?_
    rintro e w' ⟨⟨v, he, ho⟩, hb⟩
    exact ⟨v, he, ho, hb⟩
  · rw [sideO_none (ofA_good hq mask) ha]
    refine (prev_out hs.v ha mask).mono ?_
    rintro e w' ⟨rfl, hb⟩
    exact ⟨_, rfl, Lst.OwnI.nil _ _, hb⟩
/-- What New leaves. -/
def NewQ (w : World) (m : Nat) (e : Ending) (w' : World) : Prop := ∃ b nbs, e = .returned (.pointer (some ⟨b, 0, none⟩)) ∧ GQ w' w.heap.size b m [] nbs ∧ (w.heap.size ≤ b ∧ ∀ s, w.heap.size ≤ nbs s) ∧ Below w.heap.size w w'
theorem cntOf_nil : cntOf [] = zeroC := rfl
theorem new_q (n : Int) (w : World) : Calls Try.prog 5 #[.int .i64 n] w (NewQ w (roomL n)) := by
  refine (grnew n w).mono ?_
  rintro e w' ⟨b, nbs, Vs, he, hs, h1, h2⟩
  exact ⟨b, nbs, he, ⟨⟨(fun x hx => by cases hx), by simp⟩, Vs, by rw [cntOf_nil]; exact hs⟩, h1, h2⟩
/-- What a change leaves below the digraph's own blocks. -/
theorem GQ.keep {w w' : World} {B b n : Nat} {q : List Arc} {nbs : Bool → Nat} (hq : GQ w B b n q nbs) (h : Fr (AF w B b nbs) w w') (hb : B ≤ b) (hn : ∀ s, B ≤ nbs s) : Below B w w' := by
  obtain ⟨_, Vs, hs⟩ := hq
  refine h.below (fun g hg => ?_) hs.hB
  rcases hg with rfl | ⟨s, rfl⟩ | ⟨h1, _⟩
  · exact hb
  · exact hn s
  · exact h1
/-- A block of another kind stays. -/
theorem GQ.other {w w' : World} {B b n g : Nat} {q : List Arc} {nbs : Bool → Nat} {cs : Array Value} {T : TypeId} (hq : GQ w B b n q nbs) (h : Fr (AF w B b nbs) w w') (hg : w.heap[g]? = some (Obj.cells cs T (0, 0))) (hT : T ≠ 58 ∧ T ≠ 72 ∧ T ≠ 82 ∧ T ≠ 61 ∧ T ≠ 55) : w'.heap[g]? = w.heap[g]? := by
  obtain ⟨_, Vs, hs⟩ := hq
  refine af_box h hg (fun e => ?_) (fun s e => ?_) ⟨hT.1, hT.2.1, hT.2.2.1⟩
  · obtain ⟨V, h1, _⟩ := hs.own
    rw [← e, hg] at h1
    simp only [grB, Option.some.injEq, Obj.cells.injEq] at h1
    exact hT.2.2.2.2 h1.2.1
  · have := hs.row s
    rw [← e, hg] at this
    simp only [Option.some.injEq, Obj.cells.injEq] at this
    exact hT.2.2.2.1 this.2.1
end Go.Proofs.Ytpgfkggfgkafjaa.Gr
namespace Go.Proofs.Ytpgfkggfgkafjaa.Gr
open Go.ChangeShapes Go.WideShapes Go.ChangeAt Go.RowKit Base Ro F Dl Ln Rf
/-- The arcs that go out of the nodes ahead of u. -/
def allT (p : List Arc) : Nat → List Arc
  | 0 => []
  | u + 1 => allT p u ++ p.filter fun x => x.fr == (u : Int)
theorem allT_arcs {n : Nat} (hn : n ≤ 4096) {q : List Arc} (hq : GoodA n q) (mask : Int) : ∀ u, allT (ofA q mask) u = arcsT (q.map numA) mask u
  | 0 => rfl
  | u + 1 => by rw [allT, arcsT, allT_arcs hn hq mask u, outs_eq hn hq mask u]
theorem allT_all {n : Nat} (hn : n ≤ 4096) {q : List Arc} (hq : GoodA n q) (mask : Int) : allT (ofA q mask) n = ofA q mask := by
  rw [allT_arcs hn hq, arcs_eq hn hq]
theorem allT_len {n : Nat} (hn : n ≤ 4096) {q : List Arc} (hq : GoodA n q) (mask : Int) (u : Nat) : (allT (ofA q mask) u).length ≤ q.length := by
  rw [allT_arcs hn hq]
  have := arcsT_len hq.2 mask u
  rwa [List.length_map] at this
theorem ofA_len (q : List Arc) (mask : Int) : (ofA q mask).length ≤ q.length := List.length_filter_le _ _
theorem sideO_len (p : List Arc) (a : Int) (back : Bool) : (sideO p a back).length ≤ p.length := by
  unfold sideO
  cases back
  · exact Nat.le_trans (keysL_len _) (by rw [List.length_map]; exact List.length_filter_le _ _)
  · exact Nat.le_trans (keysL_len _) (by rw [List.length_map]; exact List.length_filter_le _ _)
theorem mem_next {p : List Arc} {a z : Int} : z ∈ sideO p a false ↔ ∃ x ∈ p, x.fr = a ∧ x.to = z := by
  unfold sideO
  rw [if_neg (by simp), mem_keysL, List.mem_map]
  constructor
  · rintro ⟨x, hx, rfl⟩
    rw [List.mem_filter, beq_iff_eq] at hx
    exact ⟨x, hx.1, hx.2, rfl⟩
  · rintro ⟨x, hx, h1, rfl⟩
    exact ⟨x, List.mem_filter.2 ⟨hx, beq_iff_eq.2 h1⟩, rfl⟩
theorem mem_prev {p : List Arc} {a z : Int} : z ∈ sideO p a true ↔ ∃ x ∈ p, x.to = a ∧ x.fr = z := by
  unfold sideO
  rw [if_pos rfl, mem_keysL, List.mem_map]
  constructor
  · rintro ⟨x, hx, rfl⟩
    rw [List.mem_filter, beq_iff_eq] at hx
    exact ⟨x, hx.1, hx.2, rfl⟩
  · rintro ⟨x, hx, h1, rfl⟩
    exact ⟨x, List.mem_filter.2 ⟨hx, beq_iff_eq.2 h1⟩, rfl⟩
/-- From both sides. -/
theorem sides_both (p : List Arc) (u v : Int) : decide (v ∈ sideO p u false) = decide (u ∈ sideO p v true) := by
  rw [decide_eq_decide, mem_next, mem_prev]
  constructor
  · rintro ⟨x, hx, h1, h2⟩; exact ⟨x, hx, h2, h1⟩
  · rintro ⟨x, hx, h1, h2⟩; exact ⟨x, hx, h2, h1⟩
theorem all14 {n : Nat} (hn : n ≤ 4096) {q : List Arc} (hq : GoodA n q) : ofA q 14 = q := by
  unfold ofA
  rw [List.filter_eq_self]
  intro x hx
  have := right_b hn (hq.1 x hx)
  have h3 : x.kd = 1 ∨ x.kd = 2 ∨ x.kd = 3 := by omega
  rcases h3 with h | h | h <;> rw [h] <;> decide +kernel
end Go.Proofs.Ytpgfkggfgkafjaa.Gr
