/-
  Components: a finder in memory, and what its steps make of it. Not a statement of the seat.
-/
import Derived.Test.YtimgdkafennohaaGreatDoorHead1
import Derived.Test.YtimgdkafennohaaGreatDoorHead7
import Derived.Test.YtimgdkafennohaaGreatDoorRowList
namespace Go.Proofs.YtimgdkafennohaaGreatDoor.Sc
open Go.ChangeShapes Go.WideShapes Go.ChangeAt Go.RowKit Base F Bits
/-- n ints that f tells. -/
def intsF (n : Nat) (f : Nat → Nat) : Array Value := ((List.range n).map fun i => Value.int .i64 (f i : Nat)).toArray
theorem intsF_at {n : Nat} {f : Nat → Nat} {i : Nat} (h : i < n) : (intsF n f)[i]? = some (.int .i64 (f i : Nat)) := by
  unfold intsF
  simp [h]
theorem intsF_put {n : Nat} {f : Nat → Nat} {i x : Nat} (h : i < n) : (intsF n f).setIfInBounds i (.int .i64 (x : Nat)) = intsF n (put f i x) := by
  apply Array.ext_getElem?
  intro k
  rw [Array.getElem?_setIfInBounds]
  unfold intsF put
  by_cases e : i = k
  · subst e
    simp [h]
  · by_cases hk : k < n
    · simp [hk, e, Ne.symm e]
    · simp [hk, e]
theorem intsF_zero (n : Nat) : madeCells #[.int .i64 0] n = intsF n (fun _ => 0) := by
  unfold madeCells intsF
  apply Array.ext_getElem?
  intro k
  simp
  by_cases h : k < n
  · simp [h, Nat.mod_one]
  · simp [h]
theorem intsF_ext {n : Nat} {f g : Nat → Nat} (h : ∀ i, i < n → f i = g i) : intsF n f = intsF n g := by
  unfold intsF
  congr 1
  refine List.map_congr_left fun i hi => ?_
  rw [h i (List.mem_range.1 hi)]
theorem intsF_list (n : Nat) (f : Nat → Nat) : intsF n f = (((List.range n).map fun i => (f i : Int)).map (Value.int .i64)).toArray := by
  unfold intsF
  rw [List.map_map]
  rfl
/-- Where a finder's parts lie. -/
structure Blk where
  b : Nat
  bn : Nat
  bl : Nat
  bs : Nat
  br : Nat
  bw : Nat
  bL : Nat
def finB (k : Blk) (n : Nat) (fv : Value) (met : Nat) : Obj := .cells #[fv, .int .i64 (met : Nat), .slice (some ⟨k.bn, 0, none⟩) n n, .slice (some ⟨k.bl, 0, none⟩) n n, .pointer (some ⟨k.bs, 0, none⟩), .pointer (some ⟨k.br, 0, none⟩), .slice (some ⟨k.bL, 0, none⟩) n n] 57
def natI (l : List Nat) : List Int := l.map fun (x : Nat) => (x : Int)
structure FS (B : Nat) (k : Blk) (n : Nat) (fv : Value) (W : World) (o : Option Nat) (s : St) : Prop where
  head : W.heap[k.b]? = some (finB k n fv s.met)
  num : W.heap[k.bn]? = some (.cells (intsF n s.num) 3)
  low : W.heap[k.bl]? = some (.cells (intsF n s.low) 3)
  lab : W.heap[k.bL]? = some (.cells (intsF n s.lab) 3)
  stk : SAt W k.bs o n (natI s.opn.reverse)
  row : ∃ V, RowAt W k.br k.bw n V ∧ ∀ x, V.testBit x = decide (x ∈ s.opn)
  ge : B ≤ k.b ∧ B ≤ k.bn ∧ B ≤ k.bl ∧ B ≤ k.bs ∧ B ≤ k.br ∧ B ≤ k.bw ∧ B ≤ k.bL
  ne : k.bn ≠ k.bl ∧ k.bn ≠ k.bL ∧ k.bl ≠ k.bL
  own : ∀ g, o = some g → B ≤ g ∧ g ≠ k.bn ∧ g ≠ k.bl ∧ g ≠ k.bL
  hn : n ≤ 4096
  size : B ≤ W.heap.size
/-- The blocks that a finder's calls turn. -/
def FF (k : Blk) (o : Option Nat) (g : Nat) : Prop := g = k.b ∨ g = k.bn ∨ g = k.bl ∨ g = k.bs ∨ g = k.br ∨ g = k.bw ∨ g = k.bL ∨ o = some g
section
variable {B : Nat} {k : Blk} {n : Nat} {fv : Value} {W W' : World} {o : Option Nat} {s : St}
theorem FS.ff_ge (h : FS B k n fv W o s) : ∀ g, FF k o g → B ≤ g := by
  obtain ⟨h1, h2, h3, h4, h5, h6, h7⟩ := h.ge
  rintro g (rfl | rfl | rfl | rfl | rfl | rfl | rfl | hg)
  any_goals assumption
  exact (h.own g hg).1
theorem FS.lt (h : FS B k n fv W o s) : k.b < W.heap.size ∧ k.bn < W.heap.size ∧ k.bl < W.heap.size ∧ k.bs < W.heap.size ∧ k.br < W.heap.size ∧ k.bw < W.heap.size ∧ k.bL < W.heap.size := by
  obtain ⟨V, hr, _⟩ := h.row
  exact ⟨heap_lt h.head, heap_lt h.num, heap_lt h.low, h.stk.lt.1, heap_lt hr.1, heap_lt hr.2.1, heap_lt h.lab⟩
/-- All of it but the stack and the row lies as it lay. -/
theorem FS.rest (h : FS B k n fv W o s) (h1 : W'.heap[k.b]? = W.heap[k.b]?) (h2 : W'.heap[k.bn]? = W.heap[k.bn]?) (h3 : W'.heap[k.bl]? = W.heap[k.bl]?) (h4 : W'.heap[k.bL]? = W.heap[k.bL]?) {o' : Option Nat} {opn : List Nat} (h5 : SAt W' k.bs o' n (natI opn.reverse)) (h6 : ∃ V, RowAt W' k.br k.bw n V ∧ ∀ x, V.testBit x = decide (x ∈ opn)) (h7 : ∀ g, o' = some g → B ≤ g ∧ g ≠ k.bn ∧ g ≠ k.bl ∧ g ≠ k.bL) (h8 : B ≤ W'.heap.size) : FS B k n fv W' o' { s with opn := opn } :=
  ⟨h1.trans h.head, h2.trans h.num, h3.trans h.low, h4.trans h.lab, h5, h6, h.ge, h.ne, h7, h.hn, h8⟩
theorem FS.below (h : FS B k n fv W o s) (hb : Below W.heap.size W W') : FS B k n fv W' o s := by
  obtain ⟨l1, l2, l3, l4, l5, l6, l7⟩ := h.lt
  obtain ⟨V, hr, hv⟩ := h.row
  exact h.rest (hb.block _ l1) (hb.block _ l2) (hb.block _ l3) (hb.block _ l7) (h.stk.below hb) ⟨V, hr.below hb, hv⟩ h.own (Nat.le_trans h.size hb.size)
/-- The types tell the blocks apart. -/
theorem FS.apart (h : FS B k n fv W o s) : (k.b ≠ k.bn ∧ k.b ≠ k.bl ∧ k.b ≠ k.bs ∧ k.b ≠ k.br ∧ k.b ≠ k.bw ∧ k.b ≠ k.bL) ∧ (k.bs ≠ k.bn ∧ k.bs ≠ k.bl ∧ k.bs ≠ k.br ∧ k.bs ≠ k.bw ∧ k.bs ≠ k.bL) ∧ (k.br ≠ k.bn ∧ k.br ≠ k.bl ∧ k.br ≠ k.bw ∧ k.br ≠ k.bL) ∧ (k.bw ≠ k.bn ∧ k.bw ≠ k.bl ∧ k.bw ≠ k.bL) ∧ (o ≠ some k.b ∧ o ≠ some k.bs ∧ o ≠ some k.br ∧ o ≠ some k.bw) := by
  have key : ∀ {g g' : Nat} {cs cs' : Array Value} {T T' : TypeId}, W.heap[g]? = some (Obj.cells cs T (0, 0)) → W.heap[g']? = some (Obj.cells cs' T' (0, 0)) → T ≠ T' → g ≠ g' := by
    intro g g' cs cs' T T' h1 h2 hne e
    rw [e, h2] at h1
    simp only [Option.some.injEq, Obj.cells.injEq] at h1
    exact hne h1.2.1.symm
  have hb : W.heap[k.b]? = some (Obj.cells _ 57 (0, 0)) := h.head
  obtain ⟨_, _, v, hs, hown, ho⟩ := h.stk
  obtain ⟨V, hr, _⟩ := h.row
  have o1 : ∀ {g : Nat} {cs : Array Value} {T : TypeId}, W.heap[g]? = some (Obj.cells cs T (0, 0)) → T ≠ 3 → o ≠ some g := fun hg hT e => own_ne hown hg hT (ho.trans e)
  exact ⟨⟨key hb h.num (by decide), key hb h.low (by decide), key hb hs (by decide), key hb hr.1 (by decide), key hb hr.2.1 (by decide), key hb h.lab (by decide)⟩,
    ⟨key hs h.num (by decide), key hs h.low (by decide), key hs hr.1 (by decide), key hs hr.2.1 (by decide), key hs h.lab (by decide)⟩,
    ⟨key hr.1 h.num (by decide), key hr.1 h.low (by decide), key hr.1 hr.2.1 (by decide), key hr.1 h.lab (by decide)⟩,
    ⟨key hr.2.1 h.num (by decide), key hr.2.1 h.low (by decide), key hr.2.1 h.lab (by decide)⟩,
    ⟨o1 hb (by decide), o1 hs (by decide), o1 hr.1 (by decide), o1 hr.2.1 (by decide)⟩⟩
theorem set_self {W : World} {g i : Nat} {x : Value} {cs : Array Value} {T : TypeId} (h : W.heap[g]? = some (.cells cs T)) : (W.setCell ⟨g, i, none⟩ x).heap[g]? = some (.cells (cs.setIfInBounds i x) T) := by
  simp only [World.setCell, Array.getElem?_modify, if_true, h, Option.map_some]
  rfl
theorem SAt.keep {b room : Nat} {xs : List Int} (h : SAt W b o room xs) (hb : W'.heap[b]? = W.heap[b]?) (ho : ∀ g, o = some g → W'.heap[g]? = W.heap[g]?) : SAt W' b o room xs := by
  obtain ⟨h1, h2, v, hv, hown, rfl⟩ := h
  refine ⟨h1, h2, v, hb.trans hv, ⟨hown.1, ?_⟩, rfl⟩
  rcases hown.2 with hn | ⟨g, cap, cur, rfl, hB, hg, rest⟩
  · exact .inl hn
  · exact .inr ⟨g, cap, cur, rfl, hB, (ho g rfl).trans hg, rest⟩
theorem setO {W : World} {g g' i : Nat} {x : Value} (h : g' ≠ g) : (W.setCell ⟨g, i, none⟩ x).heap[g']? = W.heap[g']? := Below.heap_setCell _ _ _ _ h
theorem size_set {W : World} {g i : Nat} {x : Value} : (W.setCell ⟨g, i, none⟩ x).heap.size = W.heap.size := by simp [World.setCell]
theorem FS.setMet (h : FS B k n fv W o s) (m : Nat) : FS B k n fv (W.setCell ⟨k.b, 1, none⟩ (.int .i64 (m : Nat))) o { s with met := m } := by
  obtain ⟨⟨a1, a2, a3, a4, a5, a6⟩, _, _, _, ⟨a7, _⟩⟩ := h.apart
  obtain ⟨V, hr, hv⟩ := h.row
  refine ⟨?_, (setO a1.symm).trans h.num, (setO a2.symm).trans h.low, (setO a6.symm).trans h.lab, SAt.keep h.stk (setO a3.symm) (fun g hg => setO (fun e => a7 (e ▸ hg))), ⟨V, hr.keep (setO a4.symm) (setO a5.symm), hv⟩, h.ge, h.ne, h.own, h.hn, by rw [size_set]; exact h.size⟩
  have := set_self (i := 1) (x := .int .i64 (m : Nat)) (show W.heap[k.b]? = some (.cells _ 57) from h.head)
  rw [this]
  rfl
theorem FS.setNum (h : FS B k n fv W o s) {v x : Nat} (hv : v < n) : FS B k n fv (W.setCell ⟨k.bn, v, none⟩ (.int .i64 (x : Nat))) o { s with num := put s.num v x } := by
  obtain ⟨⟨a1, _⟩, ⟨a2, _⟩, ⟨a3, _⟩, ⟨a4, _⟩, _⟩ := h.apart
  obtain ⟨V, hr, hV⟩ := h.row
  refine ⟨(setO a1).trans h.head, ?_, (setO h.ne.1.symm).trans h.low, (setO h.ne.2.1.symm).trans h.lab, SAt.keep h.stk (setO a2) (fun g hg => setO (h.own g hg).2.1), ⟨V, hr.keep (setO a3) (setO a4), hV⟩, h.ge, h.ne, h.own, h.hn, by rw [size_set]; exact h.size⟩
  rw [set_self h.num, intsF_put hv]
theorem FS.setLow (h : FS B k n fv W o s) {v x : Nat} (hv : v < n) : FS B k n fv (W.setCell ⟨k.bl, v, none⟩ (.int .i64 (x : Nat))) o { s with low := put s.low v x } := by
  obtain ⟨⟨_, a1, _⟩, ⟨_, a2, _⟩, ⟨_, a3, _⟩, ⟨_, a4, _⟩, _⟩ := h.apart
  obtain ⟨V, hr, hV⟩ := h.row
  refine ⟨(setO a1).trans h.head, (setO h.ne.1).trans h.num, ?_, (setO h.ne.2.2.symm).trans h.lab, SAt.keep h.stk (setO a2) (fun g hg => setO (h.own g hg).2.2.1), ⟨V, hr.keep (setO a3) (setO a4), hV⟩, h.ge, h.ne, h.own, h.hn, by rw [size_set]; exact h.size⟩
  rw [set_self h.low, intsF_put hv]
theorem FS.setLab (h : FS B k n fv W o s) {v x : Nat} (hv : v < n) : FS B k n fv (W.setCell ⟨k.bL, v, none⟩ (.int .i64 (x : Nat))) o { s with lab := put s.lab v x } := by
  obtain ⟨⟨_, _, _, _, _, a1⟩, ⟨_, _, _, _, a2⟩, ⟨_, _, _, a3⟩, ⟨_, _, a4⟩, _⟩ := h.apart
  obtain ⟨V, hr, hV⟩ := h.row
  refine ⟨(setO a1).trans h.head, (setO h.ne.2.1).trans h.num, (setO h.ne.2.2).trans h.low, ?_, SAt.keep h.stk (setO a2) (fun g hg => setO (h.own g hg).2.2.2), ⟨V, hr.keep (setO a3) (setO a4), hV⟩, h.ge, h.ne, h.own, h.hn, by rw [size_set]; exact h.size⟩
  rw [set_self h.lab, intsF_put hv]
/-- What a step leaves: a finder, whose stack may lie elsewhere; other blocks are as they were. -/
def Stp (B : Nat) (k : Blk) (n : Nat) (fv : Value) (o : Option Nat) (W : World) (s' : St) (W' : World) : Prop := ∃ o', FS B k n fv W' o' s' ∧ Mv o o' W ∧ Fr (FF k o) W W'
theorem ff_mv {o' : Option Nat} (h : Mv o o' W) : ∀ g, g < W.heap.size → FF k o' g → FF k o g := by
  rintro g hg (rfl | rfl | rfl | rfl | rfl | rfl | rfl | hq)
  all_goals try (unfold FF; simp; done)
  rcases h with rfl | ⟨g', rfl, hg'⟩
  · unfold FF; simp [hq]
  · simp at hq; omega
theorem Stp.trans {s1 s2 : St} {W1 W2 : World} (h : Stp B k n fv o W s1 W1) (h2 : ∀ o', FS B k n fv W1 o' s1 → Stp B k n fv o' W1 s2 W2) : Stp B k n fv o W s2 W2 := by
  obtain ⟨o1, f1, m1, r1⟩ := h
  obtain ⟨o2, f2, m2, r2⟩ := h2 o1 f1
  exact ⟨o2, f2, m1.trans m2 r1.size, r1.trans r2 (ff_mv m1)⟩
theorem Stp.refl (h : FS B k n fv W o s) : Stp B k n fv o W s W := ⟨o, h, Mv.refl _ _, Fr.refl _ _⟩
theorem Stp.below_ (h : FS B k n fv W o s) (hb : Below W.heap.size W W') : Stp B k n fv o W s W' := ⟨o, h.below hb, Mv.refl _ _, Fr.of_below hb⟩
theorem natI_snoc (l : List Nat) (x : Nat) : natI (x :: l).reverse = natI l.reverse ++ [(x : Int)] := by simp [natI]
/-- One is put on the stack: the row does not know yet. -/
theorem nodup_len : ∀ (n : Nat) (l : List Nat), l.Nodup → (∀ x ∈ l, x < n) → l.length ≤ n
  | 0, l, _, h => by
    rcases l with _ | ⟨a, l⟩
    · simp
    · exact absurd (h a List.mem_cons_self) (by omega)
  | n + 1, l, hd, h => by
    have h1 := nodup_len n (l.filter fun x => !(x == n)) (hd.sublist List.filter_sublist) (fun x hx => by
      rw [List.mem_filter] at hx
      have := h x hx.1
      have h2 := hx.2
      simp at h2
      omega)
    have h3 : (l.filter fun x => x == n).length ≤ 1 := by
      have hd2 : (l.filter fun x => x == n).Nodup := hd.sublist List.filter_sublist
      have ha : ∀ x ∈ l.filter fun x => x == n, x = n := fun x hx => by
        rw [List.mem_filter] at hx
        simpa using hx.2
      revert hd2 ha
      generalize (l.filter fun x => x == n) = m
      intro hd2 ha
      match m, hd2, ha with
      | [], _, _ => simp
      | [_], _, _ => simp
      | a :: b :: m, hd2, ha =>
        have e1 := ha a List.mem_cons_self
        have e2 := ha b (List.mem_cons_of_mem _ List.mem_cons_self)
        rw [List.nodup_cons] at hd2
        exact absurd (by rw [e1, e2]; exact List.mem_cons_self) hd2.1
    have h4 : (l.filter fun x => x == n).length + (l.filter fun x => !(x == n)).length = l.length := by
      clear h h1 h3 hd
      induction l with
      | nil => rfl
      | cons a l ih =>
        rw [List.filter_cons, List.filter_cons]
        cases e : (a == n) with
        | true => rw [if_pos rfl, if_neg (by decide), List.length_cons, List.length_cons]; omega
        | false =>
          have h0 : (!false) = true := rfl
          rw [if_neg (by decide), if_pos h0, List.length_cons, List.length_cons]; omega
    omega
theorem FS.opn_lt (h : FS B k n fv W o s) : ∀ x ∈ s.opn, x < n := by
  intro x hx
  obtain ⟨V, hr, hv⟩ := h.row
  have h1 := hv x
  rw [decide_eq_true hx] at h1
  exact Classical.byContradiction fun e => by
    have := Nat.testBit_lt_two_pow (x := V) (i := x) (Nat.lt_of_lt_of_le hr.2.2.2 (Nat.pow_le_pow_right (by decide) (by omega)))
    rw [this] at h1
    cases h1
theorem inv_nodup {nx : Nat → List Nat} (h : Inv nx s) : s.opn.Nodup := h.dec.imp fun {a b} hab e => by rw [e] at hab; omega
end
section
variable {B : Nat} {k : Blk} {n : Nat} {fv : Value} {W W1 W2 : World} {o o1 : Option Nat} {s : St}
/-- The stack was turned, the row not yet: what the row says, what lies where it lay. -/
theorem FS.mid (h : FS B k n fv W o s) (hf : Fr (ArF k.bs o) W W1) : (W1.heap[k.b]? = W.heap[k.b]? ∧ W1.heap[k.bn]? = W.heap[k.bn]? ∧ W1.heap[k.bl]? = W.heap[k.bl]? ∧ W1.heap[k.bL]? = W.heap[k.bL]?) ∧ ∀ V, RowAt W k.br k.bw n V → RowAt W1 k.br k.bw n V := by
  obtain ⟨l1, l2, l3, l4, l5, l6, l7⟩ := h.lt
  obtain ⟨⟨_, _, a1, _⟩, ⟨b1, b2, b3, b4, b5⟩, _, _, ⟨c1, _, c3, c4⟩⟩ := h.apart
  have key : ∀ g, g < W.heap.size → g ≠ k.bs → o ≠ some g → W1.heap[g]? = W.heap[g]? := fun g hg h1 h2 => hf.block hg (fun e => e.elim h1 h2)
  refine ⟨⟨key _ l1 a1 c1, key _ l2 b1.symm (fun e => (h.own _ e).2.1 rfl), key _ l3 b2.symm (fun e => (h.own _ e).2.2.1 rfl), key _ l7 b5.symm (fun e => (h.own _ e).2.2.2 rfl)⟩, fun V hV => ?_⟩
  exact hV.keep (key _ l5 b3.symm c3) (key _ l6 b4.symm c4)
theorem testBit_flip (V x y : Nat) : (V ^^^ 2 ^ x).testBit y = if y = x then !V.testBit y else V.testBit y := by
  rw [Nat.testBit_xor, Nat.testBit_two_pow]
  by_cases e : y = x
  · subst e; simp
  · simp [e, Ne.symm e]
/-- The stack, and then the row, is turned. -/
theorem FS.turn (h : FS B k n fv W o s) {l : List Nat} {x : Nat} {on : Bool} {e : Ending} {V : Nat} (hx : x < n) (hs : SAt W1 k.bs o1 n (natI l.reverse)) (hm : Mv o o1 W) (hf : Fr (ArF k.bs o) W W1) (hv : ∀ y, V.testBit y = decide (y ∈ s.opn))
    (hp : SetPost k.br k.bw n V (x : Int) on W1 e W2) (hne : decide (x ∈ s.opn) ≠ on) (hl : ∀ y, decide (y ∈ l) = if y = x then on else decide (y ∈ s.opn)) : Stp B k n fv o W { s with opn := l } W2 := by
  obtain ⟨⟨m1, m2, m3, m4⟩, _⟩ := h.mid hf
  obtain ⟨l1, l2, l3, l4, l5, l6, l7⟩ := h.lt
  obtain ⟨⟨_, _, a1, _, a5, _⟩, ⟨b1, b2, b3, b4, b5⟩, _, ⟨d1, d2, d3⟩, ⟨c1, _, c3, c4⟩⟩ := h.apart
  have hg := hp.2.2
  have hrow := hp.2.1
  have hsz := hf.size
  have hV : setV n V (x : Int) on = V ^^^ 2 ^ x := by
    unfold setV
    rw [if_pos ⟨by omega, by omega, by rw [Int.toNat_natCast, hv]; exact hne⟩, Int.toNat_natCast]
  rw [hV] at hrow
  have keep : ∀ g, g < W1.heap.size → g ≠ k.bw → W2.heap[g]? = W1.heap[g]? := fun g hg1 hn => hg.block g hg1 (fun e => hn (Option.some.inj e))
  have ho1 : ∀ g, o1 = some g → B ≤ g ∧ g ≠ k.bn ∧ g ≠ k.bl ∧ g ≠ k.bL := by
    intro g hg
    rcases hm with rfl | ⟨g', rfl, hg'⟩
    · exact h.own g hg
    · have e : g' = g := Option.some.inj hg
      subst e
      have := h.size
      exact ⟨by omega, by omega, by omega, by omega⟩
  have ho2 : ∀ g, o1 = some g → g < W1.heap.size ∧ g ≠ k.bw := fun g hg => ⟨(hs.lt.2 g hg).1, fun e => by
    rcases hm with rfl | ⟨g', rfl, hg'⟩
    · exact c4 (e ▸ hg)
    · have e2 : g' = g := Option.some.inj hg
      omega⟩
  refine ⟨o1, h.rest ((keep _ (by omega) a5).trans m1) ((keep _ (by omega) d1.symm).trans m2) ((keep _ (by omega) d2.symm).trans m3) ((keep _ (by omega) d3.symm).trans m4) ?_ ⟨_, hrow, fun y => ?_⟩ ho1 (by have := h.size; have := hg.size; omega), hm, ?_⟩
  · exact SAt.keep hs (keep _ hs.lt.1 b4) (fun g hg1 => keep g (ho2 g hg1).1 (ho2 g hg1).2)
  · rw [testBit_flip, hl, hv]
    by_cases e : y = x
    · rw [if_pos e, if_pos e, e]
      revert hne
      cases decide (x ∈ s.opn) <;> cases on <;> simp
    · rw [if_neg e, if_neg e]
  · refine ⟨hg.os.trans hf.1, hg.tape.trans hf.2.1, hg.output.trans hf.2.2.1, Nat.le_trans hsz hg.size, fun g hg1 hn => ?_⟩
    have n1 : ¬ ArF k.bs o g := fun e => hn (by
      rcases e with rfl | e
      · unfold FF; simp
      · unfold FF; simp [e])
    have n2 : g ≠ k.bw := fun e => hn (by unfold FF; simp [e])
    exact (keep g (by omega) n2).trans (hf.block hg1 n1)
end
end Go.Proofs.YtimgdkafennohaaGreatDoor.Sc
