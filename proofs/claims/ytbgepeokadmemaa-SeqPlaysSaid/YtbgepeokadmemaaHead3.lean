/-
  Contracts of small functions, several texts laid into one. Not a statement of the seat.
-/
import Derived.Test.YtbgepeokadmemaaHead2
import Derived.Test.YtbgepeokadmemaaCelBox
import Derived.Test.YtbgepeokadmemaaHead1
namespace Go.Proofs.Ytbgepeokadmemaa.F
open Go.ChangeShapes Go.WideShapes Go.ChangeAt Go.RowKit Base
/-- The slice v holds zs, and lies beside an arena. -/
def QS (w : World) (v : Value) (zs : List Cel) (pv : Value) (o : Option Nat) : Prop :=
  (zs = [] ∧ ∃ p c, v = .slice p 0 c ∧ (p = none → c = 0)) ∨ ∃ g off c, v = .slice (some ⟨g, off, none⟩) zs.length c ∧ zs.length ≤ c ∧ g < w.heap.size ∧ ¬ VF pv o g ∧ Cels 0 w v zs
theorem QS.nil (w : World) (pv : Value) (o : Option Nat) : QS w (.slice none 0 0) [] pv o := .inl ⟨rfl, none, 0, rfl, fun _ => rfl⟩
theorem QS.cels {w : World} {v : Value} {zs : List Cel} {pv : Value} {o : Option Nat} (h : QS w v zs pv o) : Cels 0 w v zs := by
  rcases h with ⟨rfl, h⟩ | ⟨_, _, _, _, _, _, _, h⟩
  · exact .inl ⟨h, rfl⟩
  · exact h
theorem QS.form {w : World} {v : Value} {zs : List Cel} {pv : Value} {o : Option Nat} (h : QS w v zs pv o) : ∃ p c, v = .slice p zs.length c ∧ zs.length ≤ c := by
  rcases h with ⟨rfl, p, c, h, _⟩ | ⟨g, off, c, h, h1, _⟩
  · exact ⟨p, c, h, Nat.zero_le _⟩
  · exact ⟨_, c, h, h1⟩
theorem QS.keep {w w' : World} {v : Value} {zs : List Cel} {pv : Value} {o o' : Option Nat} (h : QS w v zs pv o) (hs : w.heap.size ≤ w'.heap.size) (hk : ∀ g, g < w.heap.size → ¬ VF pv o g → w'.heap[g]? = w.heap[g]? ∧ ¬ VF pv o' g) : QS w' v zs pv o' := by
  rcases h with h | ⟨g, off, c, hv, h1, h2, h3, h4⟩
  · exact .inl h
  · have hk := hk g h2 h3
    refine .inr ⟨g, off, c, hv, h1, Nat.lt_of_lt_of_le h2 hs, hk.2, ?_⟩
    rcases h4 with h4 | ⟨g', o', c', hv', h5, h6, h7, h8⟩
    · exact .inl h4
    · have e : g' = g := by rw [hv] at hv'; injection hv' with e; injection e with e; injection e with e; exact e.symm
      subst e
      refine .inr ⟨g', o', c', hv', h5, Nat.lt_of_lt_of_le h6 hs, h7, fun k hk' => ?_⟩
      have key : ∀ j, w'.cell? ⟨g', j, none⟩ = w.cell? ⟨g', j, none⟩ := fun j => World.cell?_of_block (a := ⟨g', j, none⟩) hk.1
      simp only [key]
      exact h8 k hk'
theorem QS.below {w w' : World} {v : Value} {zs : List Cel} {pv : Value} {o : Option Nat} (h : QS w v zs pv o) (hb : Below w.heap.size w w') : QS w' v zs pv o :=
  h.keep hb.size fun g hg hn => ⟨hb.block g hg, hn⟩
theorem QS.cut {w : World} {p : Option Addr} {c : Nat} {zs : List Cel} {pv : Value} {o : Option Nat} (h : QS w (.slice p zs.length c) zs pv o) {n : Nat} (hn : n ≤ zs.length) : QS w (.slice p n c) (zs.take n) pv o := by
  have hl : (zs.take n).length = n := by rw [List.length_take]; omega
  rcases h with ⟨rfl, p', c', e, h⟩ | ⟨g, off, c', hv, h1, h2, h3, h4⟩
  · injection e with e1 e2 e3
    subst e1 e3
    have : n = 0 := by simpa using hn
    subst this
    exact .inl ⟨rfl, _, _, rfl, h⟩
  · injection hv with e1 e2 e3
    subst e1 e3
    by_cases h0 : n = 0
    · subst h0
      exact .inl ⟨by simp, _, _, rfl, fun e => by cases e⟩
    · refine .inr ⟨g, off, c, by rw [hl], by omega, h2, h3, ?_⟩
      rcases h4 with ⟨_, h4⟩ | ⟨g', o', c', hv', h5, h6, h7, h8⟩
      · subst h4; simp at hn; omega
      · injection hv' with e1 e2 e3
        injection e1 with e1
        injection e1 with e1 e4
        subst e1 e4 e3
        refine .inr ⟨g, off, c, by rw [hl], h5, h6, by omega, fun k hk => ?_⟩
        rw [hl] at hk
        have : (zs.take n).getD k Cel.zero = zs.getD k Cel.zero := by
          rw [List.getD_eq_getElem?_getD, List.getD_eq_getElem?_getD, List.getElem?_take, if_pos hk]
        rw [this]
        exact h8 k (by omega)
/-- What stays on the way: an arena of the call's own, a list beside it, boxes. -/
def PS (w0 w : World) (pv : Value) (o : Option Nat) (room : Nat) (zs : List Cel) (v : Value) (zq : List Cel) (bs : List (Nat × Obj)) : Prop :=
  AI w0 w pv o room zs ∧ QS w v zq pv o ∧ ∀ p ∈ bs, w.heap[p.1]? = some p.2 ∧ ¬ VF pv o p.1
section
variable {w0 w w' : World} {pv v : Value} {o : Option Nat} {room : Nat} {zs zq : List Cel} {bs : List (Nat × Obj)}
theorem PS.below (h : PS w0 w pv o room zs v zq bs) (hb : Below w.heap.size w w') : PS w0 w' pv o room zs v zq bs :=
  ⟨h.1.below hb, h.2.1.below hb, fun p hp => ⟨(hb.block _ (heap_lt (h.2.2 p hp).1)).trans (h.2.2 p hp).1, (h.2.2 p hp).2⟩⟩
theorem PS.step {zs' : List Cel} {e : Ending} {u : Value} (h : PS w0 w pv o room zs v zq bs) (hs : ArStep pv o room zs' u w e w') :
    e = .returned u ∧ ∃ o', Hid (PS w0 w' pv o' room zs' v zq bs) := by
  obtain ⟨he, o', h1, hsz, _, h4⟩ := h.1.step hs
  refine ⟨he, o', Lib.hid ⟨h1, h.2.1.keep hsz h4, fun p hp => ?_⟩⟩
  have := h4 p.1 (heap_lt (h.2.2 p hp).1) (h.2.2 p hp).2
  exact ⟨this.1.trans (h.2.2 p hp).1, this.2⟩
theorem PS.add (h : PS w0 w pv o room zs v zq bs) (ob : Obj) : PS w0 (w.alloc ob) pv o room zs v zq ((w.heap.size, ob) :: bs) := by
  have h2 := h.below ((Below.refl _ _).alloc (Nat.le_refl _) ob)
  refine ⟨h2.1, h2.2.1, fun p hp => ?_⟩
  rcases List.mem_cons.1 hp with rfl | hp
  · exact ⟨heap_alloc_at _ _ _ rfl, fun k => Nat.lt_irrefl _ (h.1.1.lt _ k)⟩
  · exact h2.2.2 p hp
theorem PS.drop {bs' : List (Nat × Obj)} (h : PS w0 w pv o room zs v zq bs) (hb : ∀ p ∈ bs', p ∈ bs) : PS w0 w pv o room zs v zq bs' := ⟨h.1, h.2.1, fun p hp => h.2.2 p (hb p hp)⟩
theorem PS.q {v' : Value} {zq' : List Cel} (h : PS w0 w pv o room zs v zq bs) (hq : QS w v' zq' pv o) : PS w0 w pv o room zs v' zq' bs := ⟨h.1, hq, h.2.2⟩
end
end Go.Proofs.Ytbgepeokadmemaa.F
namespace Go.Proofs.Ytbgepeokadmemaa.F
open Go.ChangeShapes Go.WideShapes Go.ChangeAt Go.RowKit Base
/-- What a call that tells a map, and makes memory, leaves. -/
def MapIs (pv : Value) (root : Int) (w : World) (e : Ending) (w' : World) : Prop := e = .returned (.agg #[pv, .int .i64 root]) ∧ Below w.heap.size w w'
/-- What a call that tells a cell, and makes memory, leaves. -/
def CelIs (x : Cel) (w : World) (e : Ending) (w' : World) : Prop := e = .returned (.agg #[.int .i64 x.l, .int .i64 x.r, .int .i64 x.k, .int .i64 x.v, .int .i64 x.s, .int .i64 x.h]) ∧ Below w.heap.size w w'
end Go.Proofs.Ytbgepeokadmemaa.F
namespace Go.Proofs.Ytbgepeokadmemaa.F
open Go.ChangeShapes Go.WideShapes Go.ChangeAt Go.RowKit Base
/-- A builder's blocks. -/
def BF (B : Nat) (pv : Value) (o : Option Nat) (g : Nat) : Prop := g = B ∨ VF pv o g
theorem Mv.bf {B : Nat} {pv : Value} {o o' : Option Nat} {w : World} (h : Mv o o' w) (g : Nat) (hg : g < w.heap.size) (k : BF B pv o' g) : BF B pv o g := by
  rcases k with k | k
  · exact .inl k
  · exact .inr (h.vf g hg k)
/-- What stays within a statement: the world ahead of it; some new boxes. -/
def RI (W1 w : World) (bs : List (Nat × Obj)) : Prop := Below W1.heap.size W1 w ∧ (∀ p ∈ bs, w.heap[p.1]? = some p.2 ∧ W1.heap.size ≤ p.1) ∧ bs.Pairwise (fun p q => p.1 ≠ q.1)
theorem RI.start (W1 : World) : RI W1 W1.drew [] := ⟨(Below.refl _ _).drew, fun _ hp => (List.not_mem_nil hp).elim, List.Pairwise.nil⟩
theorem RI.call {W1 w w' : World} {bs : List (Nat × Obj)} (h : RI W1 w bs) (hb : Below w.heap.size w w') : RI W1 w' bs :=
  ⟨h.1.trans (hb.mono h.1.size), fun p hp => ⟨(hb.block _ (heap_lt (h.2.1 p hp).1)).trans (h.2.1 p hp).1, (h.2.1 p hp).2⟩, h.2.2⟩
theorem RI.alloc {W1 w : World} {bs : List (Nat × Obj)} (h : RI W1 w bs) (o : Obj) : RI W1 (w.alloc o) ((w.heap.size, o) :: bs) := by
  have h2 := h.call ((Below.refl _ _).alloc (Nat.le_refl _) o)
  refine ⟨h2.1, fun p hp => ?_, List.Pairwise.cons (fun p hp e => ?_) h2.2.2⟩
  · rcases List.mem_cons.1 hp with rfl | hp
    · exact ⟨heap_alloc_at _ _ _ rfl, h.1.size⟩
    · exact h2.2.1 p hp
  · have := heap_lt (h.2.1 p hp).1
    simp only at e
    omega
theorem RI.store {W1 w w' : World} {g : Nat} {o o' : Obj} {bs : List (Nat × Obj)} (h : RI W1 w ((g, o) :: bs)) (hs : Stored w g o' w') : RI W1 w' ((g, o') :: bs) := by
  have hg := h.2.1 (g, o) (List.mem_cons_self ..)
  obtain ⟨hp1, hp2⟩ := List.pairwise_cons.1 h.2.2
  refine ⟨hs.below h.1 hg.2, fun p hp => ?_, List.pairwise_cons.2 ⟨hp1, hp2⟩⟩
  rcases List.mem_cons.1 hp with rfl | hp
  · exact ⟨hs.2.2.2.2.1, hg.2⟩
  · have := h.2.1 p (List.mem_cons_of_mem _ hp)
    exact ⟨(hs.2.2.2.2.2 p.1 (fun e => hp1 p hp e.symm)).trans this.1, this.2⟩
theorem RI.swap {W1 w : World} {p q : Nat × Obj} {bs : List (Nat × Obj)} (h : RI W1 w (p :: q :: bs)) : RI W1 w (q :: p :: bs) := by
  obtain ⟨hp1, hp2⟩ := List.pairwise_cons.1 h.2.2
  obtain ⟨hq1, hq2⟩ := List.pairwise_cons.1 hp2
  refine ⟨h.1, fun r hr => h.2.1 r ?_, List.pairwise_cons.2 ⟨fun r hr => ?_, List.pairwise_cons.2 ⟨fun r hr => hp1 r (List.mem_cons_of_mem _ hr), hq2⟩⟩⟩
  · rcases List.mem_cons.1 hr with rfl | hr
    · simp
    · rcases List.mem_cons.1 hr with rfl | hr
      · simp
      · simp [hr]
  · rcases List.mem_cons.1 hr with rfl | hr
    · exact fun e => hp1 q (List.mem_cons_self ..) e.symm
    · exact hq1 r hr
theorem RI.at_ {W1 w : World} {bs : List (Nat × Obj)} (h : RI W1 w bs) {g : Nat} {o : Obj} (hp : (g, o) ∈ bs) : w.heap[g]? = some o ∧ W1.heap.size ≤ g := h.2.1 (g, o) hp
/-- A box for a cell is made, in a drawn region. -/
theorem wp_alloc_cel {o : Oper} {a : Act} {w : World} {K : Act → World → Prop} {Q : Exit → Act → World → Prop} (ho : o.op = .alloc 66)
    (h : ∀ g w', g = w.heap.size → w' = w.alloc (boxC Cel.zero) → K (a.put o.dst (.pointer (some ⟨g, 0, none⟩))) w') : o.wp Try.prog a w K Q := by
  obtain ⟨dst, op, type, pos, after, guard⟩ := o
  simp only at ho
  subst ho
  go_simp
  exact h _ _ rfl rfl
/-- The cell with its size and height, by the two that it points to. -/
def sized (zs : List Cel) (c : Cel) : Cel := ⟨c.l, c.r, c.k, c.v, wrap64 (wrap64 ((celAt zs c.l).s + 1) + (celAt zs c.r).s), wrap64 (1 + if (celAt zs c.l).h < (celAt zs c.r).h then (celAt zs c.r).h else (celAt zs c.l).h)⟩
theorem wrap_range (x : Int) : -9223372036854775808 ≤ wrap64 x ∧ wrap64 x ≤ 9223372036854775807 := by
  unfold wrap64; omega
theorem sized_ok {zs : List Cel} {c : Cel} (h : c.ok) : (sized zs c).ok := ⟨h.1, h.2.1, h.2.2.1, h.2.2.2.1, wrap_range _, wrap_range _⟩
/-- What a builder's put makes: the cells, the error, the number. -/
def putM (room : Nat) (zs : List Cel) (why : Int) (c : Cel) : List Cel × Int × Int := if zs.length < room then (zs ++ [sized zs c], why, (zs.length : Int) + 1) else (zs, 2, 0)
theorem boxC_size {w : World} {g : Nat} {c : Cel} (h : w.heap[g]? = some (boxC c)) (s y : Int) : Stored w g (boxC ⟨c.l, c.r, c.k, c.v, s, y⟩) ((w.setCell ⟨g, 4, none⟩ (.int .i64 s)).setCell ⟨g, 5, none⟩ (.int .i64 y)) := by
  refine ⟨rfl, rfl, rfl, by simp [World.setCell], ?_, fun k hk => ?_⟩
  · unfold boxC at h ⊢
    simp [World.setCell, Array.getElem?_modify, h]
  · rw [Below.heap_setCell _ _ _ _ hk, Below.heap_setCell _ _ _ _ hk]
end Go.Proofs.Ytbgepeokadmemaa.F
namespace Go.Proofs.Ytbgepeokadmemaa.F
open Go.ChangeShapes Go.WideShapes Go.ChangeAt Go.RowKit Base
section
variable {B : Nat} {pv : Value} {root had : Int} {room : Nat} {w0 w w' : World} {o0 o : Option Nat} {zs : List Cel} {why : Int} {bs : List (Nat × Obj)}
end
theorem stored_cell {w : World} {g : Nat} {cs : Array Value} {t : TypeId} (h : w.heap[g]? = some (.cells cs t)) (k : Nat) (v : Value) : Stored w g (.cells (cs.setIfInBounds k v) t) (w.setCell ⟨g, k, none⟩ v) := by
  refine ⟨rfl, rfl, rfl, by simp [World.setCell], ?_, fun j hj => Below.heap_setCell _ _ _ _ hj⟩
  simp [World.setCell, Array.getElem?_modify, h]
theorem stored_l {w : World} {g : Nat} {c : Cel} (h : w.heap[g]? = some (boxC c)) (x : Int) : Stored w g (boxC ⟨x, c.r, c.k, c.v, c.s, c.h⟩) (w.setCell ⟨g, 0, none⟩ (.int .i64 x)) := stored_cell h 0 _
theorem stored_r {w : World} {g : Nat} {c : Cel} (h : w.heap[g]? = some (boxC c)) (x : Int) : Stored w g (boxC ⟨c.l, x, c.k, c.v, c.s, c.h⟩) (w.setCell ⟨g, 1, none⟩ (.int .i64 x)) := stored_cell h 1 _
theorem stored_k {w : World} {g : Nat} {c : Cel} (h : w.heap[g]? = some (boxC c)) (x : Int) : Stored w g (boxC ⟨c.l, c.r, x, c.v, c.s, c.h⟩) (w.setCell ⟨g, 2, none⟩ (.int .i64 x)) := stored_cell h 2 _
theorem stored_v {w : World} {g : Nat} {c : Cel} (h : w.heap[g]? = some (boxC c)) (x : Int) : Stored w g (boxC ⟨c.l, c.r, c.k, x, c.s, c.h⟩) (w.setCell ⟨g, 3, none⟩ (.int .i64 x)) := stored_cell h 3 _
/-- A field of a box is stored, in a drawn region. -/
theorem wp_store_fld {o : Oper} {a : Act} {w : World} {K : Act → World → Prop} {Q : Exit → Act → World → Prop} (x y : Operand) (ho : o.op = .store 3 x y)
    (g k : Nat) (z : Int) (c c' : Cel) (hk : k < 6) (hx : a.eval x = .pointer (some ⟨g, k, none⟩)) (hy : a.eval y = .int .i64 z) (hg : w.heap[g]? = some (boxC c)) (hc : (#[.int .i64 c.l, .int .i64 c.r, .int .i64 c.k, .int .i64 c.v, .int .i64 c.s, .int .i64 c.h] : Array Value).setIfInBounds k (.int .i64 z) = #[.int .i64 c'.l, .int .i64 c'.r, .int .i64 c'.k, .int .i64 c'.v, .int .i64 c'.s, .int .i64 c'.h])
    (h : ∀ w', Stored w g (boxC c') w' → K (a.put o.dst undef) w') : o.wp Try.prog a w K Q := by
  have hst := stored_cell hg k (.int .i64 z)
  rw [hc] at hst
  have h1 := (cellsC hg).2
  have h2 := frozC hg
  have hcell : ∃ v, w.cell? ⟨g, k, none⟩ = some v := by
    rcases (show k = 0 ∨ k = 1 ∨ k = 2 ∨ k = 3 ∨ k = 4 ∨ k = 5 by omega) with rfl | rfl | rfl | rfl | rfl | rfl <;> simp [h1]
  have hfro : w.frozen? ⟨g, k, none⟩ = false := by
    rcases (show k = 0 ∨ k = 1 ∨ k = 2 ∨ k = 3 ∨ k = 4 ∨ k = 5 by omega) with rfl | rfl | rfl | rfl | rfl | rfl <;> simp [h2]
  obtain ⟨v, hcell⟩ := hcell
  obtain ⟨dst, op, type, pos, after, guard⟩ := o
  simp only at ho
  subst ho
  have hK := h _ hst
  clear hst h1 h2 hc h hg
  unfold Oper.wp execOp
  simp only [hx, hy]
  go_simp
  exact hK
set_option maxRecDepth 100000 in
theorem fld_h (l r k v s h : Int) (w : World) : (Instr.field 66 (.agg #[.int .i64 l, .int .i64 r, .int .i64 k, .int .i64 v, .int .i64 s, .int .i64 h]) 5).run Try.prog w = .ok (.int .i64 h) w := by kernel_rfl
/-- A cell points to cells that are there. -/
theorem celAt_fit {zs : List Cel} (h : Bk zs) (i : Int) : fitC (celAt zs i) zs.length := by
  unfold celAt fitC
  split
  · rw [List.getD_eq_getElem?_getD]
    by_cases hi : i.toNat - 1 < zs.length
    · have := h _ _ (List.getElem?_eq_getElem hi)
      rw [List.getElem?_eq_getElem hi]
      simp only [Option.getD_some]
      omega
    · rw [List.getElem?_eq_none (by omega)]
      simp [Cel.zero]
  · simp [Cel.zero]
theorem celAt_ok {zs : List Cel} (h : ∀ x ∈ zs, x.ok) (i : Int) : (celAt zs i).ok := by
  have hz : Cel.zero.ok := by unfold Cel.ok Cel.zero; simp
  unfold celAt
  split
  · rw [List.getD_eq_getElem?_getD]
    by_cases hi : i.toNat - 1 < zs.length
    · rw [List.getElem?_eq_getElem hi]
      exact h _ (List.getElem_mem hi)
    · rw [List.getElem?_eq_none (by omega)]
      exact hz
  · exact hz
theorem putM_le (room : Nat) (zs : List Cel) (why : Int) (c : Cel) : zs.length ≤ (putM room zs why c).1.length ∧ 0 ≤ (putM room zs why c).2.2 ∧ (putM room zs why c).2.2 ≤ ((putM room zs why c).1.length : Int) := by
  unfold putM
  split
  · simp; omega
  · simp
theorem putM_le2 (room : Nat) (zs : List Cel) (why : Int) (c : Cel) : (putM room zs why c).1.length ≤ zs.length + 1 := by
  unfold putM
  split
  · simp
  · simp
theorem fitC.mono {c : Cel} {n m : Nat} (h : fitC c n) (hn : n ≤ m) : fitC c m := by
  unfold fitC at *
  omega
/-- What the builder's turns make. -/
def turnRM (room : Nat) (zs : List Cel) (why : Int) (c : Cel) : List Cel × Int × Int :=
  if (celAt zs (celAt zs c.l).r).h ≤ (celAt zs (celAt zs c.l).l).h then
    putM room (putM room zs why ⟨(celAt zs c.l).r, c.r, c.k, c.v, c.s, c.h⟩).1 (putM room zs why ⟨(celAt zs c.l).r, c.r, c.k, c.v, c.s, c.h⟩).2.1 ⟨(celAt zs c.l).l, (putM room zs why ⟨(celAt zs c.l).r, c.r, c.k, c.v, c.s, c.h⟩).2.2, (celAt zs c.l).k, (celAt zs c.l).v, (celAt zs c.l).s, (celAt zs c.l).h⟩
  else
    let m := celAt zs (celAt zs c.l).r
    let p1 := putM room zs why ⟨(celAt zs c.l).l, m.l, (celAt zs c.l).k, (celAt zs c.l).v, (celAt zs c.l).s, (celAt zs c.l).h⟩
    let p2 := putM room p1.1 p1.2.1 ⟨m.r, c.r, c.k, c.v, c.s, c.h⟩
    putM room p2.1 p2.2.1 ⟨p1.2.2, p2.2.2, m.k, m.v, m.s, m.h⟩
def turnLM (room : Nat) (zs : List Cel) (why : Int) (c : Cel) : List Cel × Int × Int :=
  if (celAt zs (celAt zs c.r).l).h ≤ (celAt zs (celAt zs c.r).r).h then
    putM room (putM room zs why ⟨c.l, (celAt zs c.r).l, c.k, c.v, c.s, c.h⟩).1 (putM room zs why ⟨c.l, (celAt zs c.r).l, c.k, c.v, c.s, c.h⟩).2.1 ⟨(putM room zs why ⟨c.l, (celAt zs c.r).l, c.k, c.v, c.s, c.h⟩).2.2, (celAt zs c.r).r, (celAt zs c.r).k, (celAt zs c.r).v, (celAt zs c.r).s, (celAt zs c.r).h⟩
  else
    let m := celAt zs (celAt zs c.r).l
    let p1 := putM room zs why ⟨m.r, (celAt zs c.r).r, (celAt zs c.r).k, (celAt zs c.r).v, (celAt zs c.r).s, (celAt zs c.r).h⟩
    let p2 := putM room p1.1 p1.2.1 ⟨c.l, m.l, c.k, c.v, c.s, c.h⟩
    putM room p2.1 p2.2.1 ⟨p2.2.2, p1.2.2, m.k, m.v, m.s, m.h⟩
def levelM (room : Nat) (zs : List Cel) (why : Int) (c : Cel) : List Cel × Int × Int :=
  if 1 < wrap64 ((celAt zs c.l).h - (celAt zs c.r).h) then turnRM room zs why c else if wrap64 ((celAt zs c.l).h - (celAt zs c.r).h) < -1 then turnLM room zs why c else putM room zs why c
end Go.Proofs.Ytbgepeokadmemaa.F
namespace Go.Proofs.Ytbgepeokadmemaa.F
open Go.ChangeShapes Go.WideShapes Go.ChangeAt Go.RowKit Base
/-- The tree at a number. -/
def Tr (zs : List Cel) : Tre → Int → Prop
  | .nil, i => i = 0
  | .node l k v r, i => (1 ≤ i ∧ i ≤ (zs.length : Int)) ∧ ∃ a b, celAt zs i = ⟨a, b, k, v, ((Tre.node l k v r).size : Int), ((Tre.node l k v r).high : Int)⟩ ∧ Tr zs l a ∧ Tr zs r b
theorem celAt_append {zs : List Cel} (ys : List Cel) {i : Int} (h : i ≤ (zs.length : Int)) : celAt (zs ++ ys) i = celAt zs i := by
  unfold celAt
  split
  · rw [List.getD_eq_getElem?_getD, List.getD_eq_getElem?_getD, List.getElem?_append_left (by omega)]
  · rfl
theorem celAt_snoc (zs : List Cel) (c : Cel) : celAt (zs ++ [c]) ((zs.length : Int) + 1) = c := by
  unfold celAt
  rw [if_pos (by omega), show ((zs.length : Int) + 1).toNat - 1 = zs.length by omega, List.getD_eq_getElem?_getD, List.getElem?_append_right (Nat.le_refl _)]
  simp
theorem celAt_zero (zs : List Cel) : celAt zs 0 = Cel.zero := rfl
theorem Tr.le {zs : List Cel} {t : Tre} {i : Int} (h : Tr zs t i) : 0 ≤ i ∧ i ≤ (zs.length : Int) := by
  cases t with
  | nil => simp only [Tr] at h; omega
  | node l k v r => have := h.1; omega
theorem Tr.append {zs : List Cel} (ys : List Cel) : ∀ {t : Tre} {i : Int}, Tr zs t i → Tr (zs ++ ys) t i
  | .nil, _, h => h
  | .node l k v r, i, h => by
    obtain ⟨h1, a, b, h2, h3, h4⟩ := h
    exact ⟨⟨h1.1, by rw [List.length_append]; omega⟩, a, b, by rw [celAt_append ys h1.2, h2], h3.append ys, h4.append ys⟩
theorem Tr.root {zs : List Cel} {t : Tre} {i : Int} (h : Tr zs t i) : (celAt zs i).s = (t.size : Int) ∧ (celAt zs i).h = (t.high : Int) := by
  cases t with
  | nil => simp only [Tr] at h; subst h; exact ⟨rfl, rfl⟩
  | node l k v r => obtain ⟨_, a, b, h2, _⟩ := h; rw [h2]; exact ⟨rfl, rfl⟩
/-- A tree that is not too great. -/
def small (t : Tre) : Prop := t.size ≤ 1000000
theorem sized_tr {zs : List Cel} {c : Cel} {l r : Tre} (hl : Tr zs l c.l) (hr : Tr zs r c.r) (h1 : l.size ≤ 2000000) (h2 : r.size ≤ 2000000) : sized zs c = ⟨c.l, c.r, c.k, c.v, ((Tre.node l c.k c.v r).size : Int), ((Tre.node l c.k c.v r).high : Int)⟩ := by
  have e1 := hl.root
  have e2 := hr.root
  have h3 := l.high_le_size
  have h4 := r.high_le_size
  unfold sized
  rw [e1.1, e1.2, e2.1, e2.2, IntWalk.wrap64_in ((l.size : Int) + 1) (by omega), IntWalk.wrap64_in ((l.size : Int) + 1 + (r.size : Int)) (by omega), IntWalk.wrap64_in (1 + _) (by split <;> omega)]
  simp only [Tre.size, Tre.high, Cel.mk.injEq, true_and]
  refine ⟨by omega, ?_⟩
  split <;> omega
theorem put_tr {zs : List Cel} {c : Cel} {l r : Tre} (hl : Tr zs l c.l) (hr : Tr zs r c.r) (h1 : l.size ≤ 2000000) (h2 : r.size ≤ 2000000) : Tr (zs ++ [sized zs c]) (.node l c.k c.v r) ((zs.length : Int) + 1) := by
  refine ⟨by simp; omega, c.l, c.r, ?_, hl.append _, hr.append _⟩
  rw [celAt_snoc, sized_tr hl hr h1 h2]
/-- What a builder's call makes: the tree, with no more cells than n; or there was no room for them. -/
def Out (room : Nat) (zs : List Cel) (n : Nat) (T : Tre) (R : List Cel × Int × Int) : Prop :=
  ∃ new, R.1 = zs ++ new ∧ ((R.2.1 = 0 ∧ Tr R.1 T R.2.2 ∧ new.length ≤ n) ∨ (R.2.1 = 2 ∧ R.1.length = room ∧ room < zs.length + n ∧ 0 ≤ R.2.2 ∧ R.2.2 ≤ (R.1.length : Int)))
theorem putM_yes {room : Nat} {zs : List Cel} (why : Int) (c : Cel) (h : zs.length < room) : putM room zs why c = (zs ++ [sized zs c], why, (zs.length : Int) + 1) := by unfold putM; rw [if_pos h]
theorem putM_no {room : Nat} {zs : List Cel} (why : Int) (c : Cel) (h : zs.length = room) : putM room zs why c = (zs, 2, 0) := by unfold putM; rw [if_neg (by omega)]
theorem turnRM_no {room : Nat} {zs : List Cel} (why : Int) (c : Cel) (h : zs.length = room) : turnRM room zs why c = (zs, 2, 0) := by
  unfold turnRM
  split <;> simp only [putM_no _ _ h]
theorem turnLM_no {room : Nat} {zs : List Cel} (why : Int) (c : Cel) (h : zs.length = room) : turnLM room zs why c = (zs, 2, 0) := by
  unfold turnLM
  split <;> simp only [putM_no _ _ h]
theorem levelM_no {room : Nat} {zs : List Cel} (why : Int) (c : Cel) (h : zs.length = room) : levelM room zs why c = (zs, 2, 0) := by
  unfold levelM
  split
  · exact turnRM_no _ _ h
  · split
    · exact turnLM_no _ _ h
    · exact putM_no _ _ h
theorem Out.full {room : Nat} {zs new : List Cel} {n : Nat} {T : Tre} (h : (zs ++ new).length = room) (hn : new.length < n) : Out room zs n T (zs ++ new, 2, 0) :=
  ⟨new, rfl, .inr ⟨rfl, h, by rw [List.length_append] at h; show room < zs.length + n; omega, Int.le_refl _, Int.natCast_nonneg _⟩⟩
theorem Out.ok {room : Nat} {zs new : List Cel} {n : Nat} {T : Tre} {i : Int} (h : Tr (zs ++ new) T i) (hn : new.length ≤ n) : Out room zs n T (zs ++ new, 0, i) := ⟨new, rfl, .inl ⟨rfl, h, hn⟩⟩
theorem Out.full0 {room : Nat} {zs : List Cel} {n : Nat} {T : Tre} (h : zs.length = room) (hn : 0 < n) : Out room zs n T (zs, 2, 0) := by
  have := Out.full (new := []) (T := T) (by simpa using h) hn
  simpa using this
theorem put_out {room : Nat} {zs : List Cel} {c : Cel} {l r : Tre} {n : Nat} (hz : zs.length ≤ room) (hl : Tr zs l c.l) (hr : Tr zs r c.r) (h1 : l.size ≤ 2000000) (h2 : r.size ≤ 2000000) (hn : 1 ≤ n) : Out room zs n (.node l c.k c.v r) (putM room zs 0 c) := by
  by_cases h : zs.length < room
  · rw [putM_yes _ _ h]; exact .ok (put_tr hl hr h1 h2) hn
  · rw [putM_no _ _ (by omega)]; exact .full0 (by omega) (by omega)
theorem turnR_out {room : Nat} {zs : List Cel} {c : Cel} {l r : Tre} (hz : zs.length ≤ room) (hl : Tr zs l c.l) (hr : Tr zs r c.r) (h1 : l.size ≤ 1000000) (h2 : r.size ≤ 1000000) (hh : r.high + 1 < l.high) : Out room zs 3 (Tre.turnR l c.k c.v r) (turnRM room zs 0 c) := by
  cases l with
  | nil => simp [Tre.high] at hh
  | node ll lk lv lr =>
    obtain ⟨hi, a, b, hc, ha, hb⟩ := hl
    unfold turnRM Tre.turnR
    rw [hc]
    simp only [Tre.size] at h1
    rw [hb.root.2, ha.root.2]
    by_cases hle : lr.high ≤ ll.high
    · rw [if_pos (by omega)]
      simp only [if_pos hle]
      by_cases q1 : zs.length < room
      · rw [putM_yes _ _ q1]
        simp only
        have t1 := put_tr (c := ⟨b, c.r, c.k, c.v, c.s, c.h⟩) hb hr (by omega) (by omega)
        generalize sized zs ⟨b, c.r, c.k, c.v, c.s, c.h⟩ = x1 at t1 ⊢
        have hs1 : (Tre.node lr c.k c.v r).size ≤ 2000000 := by simp only [Tre.size]; omega
        by_cases q2 : (zs ++ [x1]).length < room
        · rw [putM_yes _ _ q2]
          have t2 := put_tr (c := ⟨a, (zs.length : Int) + 1, lk, lv, ((Tre.node ll lk lv lr).size : Int), ((Tre.node ll lk lv lr).high : Int)⟩) (ha.append [x1]) t1 (by omega) hs1
          generalize sized (zs ++ [x1]) _ = x2 at t2 ⊢
          rw [List.append_assoc] at t2 ⊢
          exact .ok t2 (by simp)
        · rw [putM_no _ _ (show (zs ++ [x1]).length = room by simp at q2 ⊢; omega)]
          exact .full (by simp at q2 ⊢; omega) (by simp)
      · simp only [putM_no _ _ (show zs.length = room by omega)]
        exact .full0 (by omega) (by omega)
    · rw [if_neg (by omega)]
      simp only [if_neg hle]
      cases lr with
      | nil => simp [Tre.high] at hle
      | node m1 mk mv m2 =>
        obtain ⟨hi2, a2, b2, hc2, ha2, hb2⟩ := hb
        simp only [hc2]
        simp only [Tre.size] at h1
        by_cases q1 : zs.length < room
        · simp only [putM_yes _ _ q1]
          have t1 := put_tr (c := ⟨a, a2, lk, lv, ((Tre.node ll lk lv (Tre.node m1 mk mv m2)).size : Int), ((Tre.node ll lk lv (Tre.node m1 mk mv m2)).high : Int)⟩) ha ha2 (by omega) (by omega)
          generalize sized zs _ = x1 at t1 ⊢
          by_cases q2 : (zs ++ [x1]).length < room
          · simp only [putM_yes _ _ q2]
            have t2 := put_tr (c := ⟨b2, c.r, c.k, c.v, c.s, c.h⟩) (hb2.append [x1]) (hr.append [x1]) (by omega) (by omega)
            generalize sized (zs ++ [x1]) _ = x2 at t2 ⊢
            by_cases q3 : (zs ++ [x1] ++ [x2]).length < room
            · simp only [putM_yes _ _ q3]
              have t3 := put_tr (c := ⟨(zs.length : Int) + 1, ((zs ++ [x1]).length : Int) + 1, mk, mv, ((Tre.node m1 mk mv m2).size : Int), ((Tre.node m1 mk mv m2).high : Int)⟩) (t1.append [x2]) t2 (by simp only [Tre.size]; omega) (by simp only [Tre.size]; omega)
              generalize sized (zs ++ [x1] ++ [x2]) _ = x3 at t3 ⊢
              rw [List.append_assoc, List.append_assoc] at t3 ⊢
              exact .ok t3 (by simp)
            · simp only [putM_no _ _ (show (zs ++ [x1] ++ [x2]).length = room by simp at q2 q3 ⊢; omega)]
              rw [List.append_assoc]
              exact .full (by simp at q2 q3 ⊢; omega) (by simp)
          · simp only [putM_no _ _ (show (zs ++ [x1]).length = room by simp at q2 ⊢; omega)]
            exact .full (by simp at q2 ⊢; omega) (by simp)
        · simp only [putM_no _ _ (show zs.length = room by omega)]
          exact .full0 (by omega) (by omega)
theorem turnL_out {room : Nat} {zs : List Cel} {c : Cel} {l r : Tre} (hz : zs.length ≤ room) (hl : Tr zs l c.l) (hr : Tr zs r c.r) (h1 : l.size ≤ 1000000) (h2 : r.size ≤ 1000000) (hh : l.high + 1 < r.high) : Out room zs 3 (Tre.turnL l c.k c.v r) (turnLM room zs 0 c) := by
  cases r with
  | nil => simp [Tre.high] at hh
  | node rl rk rv rr =>
    obtain ⟨hi, a, b, hc, ha, hb⟩ := hr
    unfold turnLM Tre.turnL
    rw [hc]
    simp only [Tre.size] at h2
    rw [hb.root.2, ha.root.2]
    by_cases hle : rl.high ≤ rr.high
    · rw [if_pos (by omega)]
      simp only [if_pos hle]
      by_cases q1 : zs.length < room
      · rw [putM_yes _ _ q1]
        simp only
        have t1 := put_tr (c := ⟨c.l, a, c.k, c.v, c.s, c.h⟩) hl ha (by omega) (by omega)
        generalize sized zs ⟨c.l, a, c.k, c.v, c.s, c.h⟩ = x1 at t1 ⊢
        have hs1 : (Tre.node l c.k c.v rl).size ≤ 2000000 := by simp only [Tre.size]; omega
        by_cases q2 : (zs ++ [x1]).length < room
        · rw [putM_yes _ _ q2]
          have t2 := put_tr (c := ⟨(zs.length : Int) + 1, b, rk, rv, ((Tre.node rl rk rv rr).size : Int), ((Tre.node rl rk rv rr).high : Int)⟩) t1 (hb.append [x1]) hs1 (by omega)
          generalize sized (zs ++ [x1]) _ = x2 at t2 ⊢
          rw [List.append_assoc] at t2 ⊢
          exact .ok t2 (by simp)
        · rw [putM_no _ _ (show (zs ++ [x1]).length = room by simp at q2 ⊢; omega)]
          exact .full (by simp at q2 ⊢; omega) (by simp)
      · simp only [putM_no _ _ (show zs.length = room by omega)]
        exact .full0 (by omega) (by omega)
    · rw [if_neg (by omega)]
      simp only [if_neg hle]
      cases rl with
      | nil => simp [Tre.high] at hle
      | node m1 mk mv m2 =>
        obtain ⟨hi2, a2, b2, hc2, ha2, hb2⟩ := ha
        simp only [hc2]
        simp only [Tre.size] at h2
        by_cases q1 : zs.length < room
        · simp only [putM_yes _ _ q1]
          have t1 := put_tr (c := ⟨b2, b, rk, rv, ((Tre.node (Tre.node m1 mk mv m2) rk rv rr).size : Int), ((Tre.node (Tre.node m1 mk mv m2) rk rv rr).high : Int)⟩) hb2 hb (by omega) (by omega)
          generalize sized zs _ = x1 at t1 ⊢
          by_cases q2 : (zs ++ [x1]).length < room
          · simp only [putM_yes _ _ q2]
            have t2 := put_tr (c := ⟨c.l, a2, c.k, c.v, c.s, c.h⟩) (hl.append [x1]) (ha2.append [x1]) (by omega) (by omega)
            generalize sized (zs ++ [x1]) _ = x2 at t2 ⊢
            by_cases q3 : (zs ++ [x1] ++ [x2]).length < room
            · simp only [putM_yes _ _ q3]
              have t3 := put_tr (c := ⟨((zs ++ [x1]).length : Int) + 1, (zs.length : Int) + 1, mk, mv, ((Tre.node m1 mk mv m2).size : Int), ((Tre.node m1 mk mv m2).high : Int)⟩) t2 (t1.append [x2]) (by simp only [Tre.size]; omega) (by simp only [Tre.size]; omega)
              generalize sized (zs ++ [x1] ++ [x2]) _ = x3 at t3 ⊢
              rw [List.append_assoc, List.append_assoc] at t3 ⊢
              exact .ok t3 (by simp)
            · simp only [putM_no _ _ (show (zs ++ [x1] ++ [x2]).length = room by simp at q2 q3 ⊢; omega)]
              rw [List.append_assoc]
              exact .full (by simp at q2 q3 ⊢; omega) (by simp)
          · simp only [putM_no _ _ (show (zs ++ [x1]).length = room by simp at q2 ⊢; omega)]
            exact .full (by simp at q2 ⊢; omega) (by simp)
        · simp only [putM_no _ _ (show zs.length = room by omega)]
          exact .full0 (by omega) (by omega)
theorem level_out {room : Nat} {zs : List Cel} {c : Cel} {l r : Tre} (hz : zs.length ≤ room) (hl : Tr zs l c.l) (hr : Tr zs r c.r) (h1 : l.size ≤ 1000000) (h2 : r.size ≤ 1000000) : Out room zs 3 (Tre.lev l c.k c.v r) (levelM room zs 0 c) := by
  have h3 := l.high_le_size
  have h4 := r.high_le_size
  unfold levelM Tre.lev
  rw [hl.root.2, hr.root.2, IntWalk.wrap64_in _ (by omega)]
  by_cases q1 : r.high + 1 < l.high
  · rw [if_pos q1, if_pos (show (1 : Int) < (l.high : Int) - (r.high : Int) by omega)]
    exact turnR_out hz hl hr h1 h2 q1
  · rw [if_neg q1, if_neg (show ¬ (1 : Int) < (l.high : Int) - (r.high : Int) by omega)]
    by_cases q2 : l.high + 1 < r.high
    · rw [if_pos q2, if_pos (show (l.high : Int) - (r.high : Int) < -1 by omega)]
      exact turnL_out hz hl hr h1 h2 q2
    · rw [if_neg q2, if_neg (show ¬ (l.high : Int) - (r.high : Int) < -1 by omega)]
      exact put_out hz hl hr (by omega) (by omega) (by omega)
/-- A level behind a call that made the left tree. -/
theorem out_left {room : Nat} {zs : List Cel} {n : Nat} {T r : Tre} {R : List Cel × Int × Int} {b k v s h : Int} (hR : Out room zs n T R) (hr : Tr zs r b) (h1 : T.size ≤ 1000000) (h2 : r.size ≤ 1000000) (hb : R.1.length ≤ room) : Out room zs (n + 3) (Tre.lev T k v r) (levelM room R.1 R.2.1 ⟨R.2.2, b, k, v, s, h⟩) := by
  obtain ⟨zs1, why1, i1⟩ := R
  obtain ⟨new, he, h | h⟩ := hR
  · simp only at he h hb ⊢
    obtain ⟨rfl, ht, hn⟩ := h
    subst he
    obtain ⟨new2, he2, h3⟩ := level_out (c := ⟨i1, b, k, v, s, h⟩) hb ht (hr.append new) h1 h2
    refine ⟨new ++ new2, by rw [he2, List.append_assoc], ?_⟩
    rcases h3 with ⟨x1, x2, x3⟩ | ⟨x1, x2, x3, x4⟩
    · exact .inl ⟨x1, x2, by rw [List.length_append]; omega⟩
    · exact .inr ⟨x1, x2, by rw [List.length_append] at x3; omega, x4⟩
  · simp only at he h hb ⊢
    obtain ⟨rfl, hf, hn, _⟩ := h
    subst he
    rw [levelM_no _ _ hf]
    exact ⟨new, rfl, .inr ⟨rfl, hf, by omega, Int.le_refl _, Int.natCast_nonneg _⟩⟩
theorem out_right {room : Nat} {zs : List Cel} {n : Nat} {T l : Tre} {R : List Cel × Int × Int} {a k v s h : Int} (hR : Out room zs n T R) (hl : Tr zs l a) (h1 : T.size ≤ 1000000) (h2 : l.size ≤ 1000000) (hb : R.1.length ≤ room) : Out room zs (n + 3) (Tre.lev l k v T) (levelM room R.1 R.2.1 ⟨a, R.2.2, k, v, s, h⟩) := by
  obtain ⟨zs1, why1, i1⟩ := R
  obtain ⟨new, he, h | h⟩ := hR
  · simp only at he h hb ⊢
    obtain ⟨rfl, ht, hn⟩ := h
    subst he
    obtain ⟨new2, he2, h3⟩ := level_out (c := ⟨a, i1, k, v, s, h⟩) hb (hl.append new) ht h2 h1
    refine ⟨new ++ new2, by rw [he2, List.append_assoc], ?_⟩
    rcases h3 with ⟨x1, x2, x3⟩ | ⟨x1, x2, x3, x4⟩
    · exact .inl ⟨x1, x2, by rw [List.length_append]; omega⟩
    · exact .inr ⟨x1, x2, by rw [List.length_append] at x3; omega, x4⟩
  · simp only at he h hb ⊢
    obtain ⟨rfl, hf, hn, _⟩ := h
    subst he
    rw [levelM_no _ _ hf]
    exact ⟨new, rfl, .inr ⟨rfl, hf, by omega, Int.le_refl _, Int.natCast_nonneg _⟩⟩
namespace Tre
theorem lev_size (l : Tre) (k v : Int) (r : Tre) : (lev l k v r).size = l.size + 1 + r.size := by
  rw [← list_len, lev_list, List.length_append, List.length_cons, list_len, list_len]; omega
theorem ins_size (key val : Int) (t : Tre) : (ins key val t).size ≤ t.size + 1 := by
  induction t with
  | nil => simp [ins, size]
  | node l k v r h1 h2 =>
    simp only [ins]
    split
    · rw [lev_size]; simp only [size]; omega
    · split
      · rw [lev_size]; simp only [size]; omega
      · rw [lev_size]; simp only [size]; omega
theorem pop_size {t : Tre} (h : t ≠ nil) : t.size = (pop t).2.size + 1 := by
  rw [← list_len, pop_list h, List.length_cons, list_len]
theorem del_size (key : Int) (t : Tre) : (del key t).size ≤ t.size := by
  induction t with
  | nil => simp [del]
  | node l k v r h1 h2 =>
    by_cases c1 : key < k
    · simp only [del, if_pos c1]; rw [lev_size]; simp only [size]; omega
    · by_cases c2 : k < key
      · simp only [del, if_neg c1, if_pos c2]; rw [lev_size]; simp only [size]; omega
      · obtain rfl : key = k := by omega
        by_cases e1 : l = nil
        · subst e1; simp only [del, if_neg c1, size]; omega
        · by_cases e2 : r = nil
          · subst e2
            cases l with
            | nil => exact absurd rfl e1
            | node => simp only [del, if_neg c1, size]; omega
          · rw [del_eq _ _ _ _ e1 e2, lev_size]
            have := pop_size e2
            simp only [size]; omega
end Tre
theorem Out.idx {room : Nat} {zs : List Cel} {n : Nat} {T : Tre} {R : List Cel × Int × Int} (h : Out room zs n T R) : 0 ≤ R.2.2 ∧ R.2.2 ≤ (R.1.length : Int) ∧ zs.length ≤ R.1.length := by
  obtain ⟨new, he, h⟩ := h
  have : zs.length ≤ R.1.length := by rw [he, List.length_append]; omega
  rcases h with ⟨_, h, _⟩ | ⟨_, _, _, h1, h2⟩
  · have := h.le; exact ⟨this.1, this.2, by assumption⟩
  · exact ⟨h1, h2, this⟩
theorem Out.mono {room : Nat} {zs : List Cel} {n m : Nat} {T : Tre} {R : List Cel × Int × Int} (h : Out room zs n T R) (hn : n ≤ m) : Out room zs m T R := by
  obtain ⟨new, he, h⟩ := h
  refine ⟨new, he, ?_⟩
  rcases h with ⟨h1, h2, h3⟩ | ⟨h1, h2, h3, h4⟩
  · exact .inl ⟨h1, h2, by omega⟩
  · exact .inr ⟨h1, h2, by omega, h4⟩
end Go.Proofs.Ytbgepeokadmemaa.F
namespace Go.Proofs.Ytbgepeokadmemaa.F
open Go.ChangeShapes Go.WideShapes Go.ChangeAt Go.RowKit Base
/-- What becomes of a map: another one, and more cells; or there was no room, and the cells are as they were. -/
def MRes (P : List Cel → Int → Prop) (Z : Prop) (zs zs' : List Cel) (root' why : Int) : Prop := (why = 0 ∧ P zs' root') ∨ (why = 2 ∧ zs' = zs ∧ root' = 0 ∧ Z)
/-- What Put, Del, Move leave. -/
def MP (pv : Value) (o : Option Nat) (room : Nat) (zs : List Cel) (P : List Cel → Int → Prop) (Z : Prop) (w : World) (e : Ending) (w' : World) : Prop :=
  ∃ root' why zs' o', e = .returned (.tuple #[.agg #[pv, .int .i64 root'], .int .i64 why]) ∧ ArV w' pv o' room zs' ∧ Mv o o' w ∧ Fr (VF pv o) w w' ∧ MRes P Z zs zs' root' why
def PutP (zs : List Cel) (n : Nat) (T : Tre) (zs' : List Cel) (root' : Int) : Prop := (∃ new, zs' = zs ++ new ∧ new.length ≤ n) ∧ Tr zs' T root'
theorem Out.fin {room : Nat} {zs : List Cel} {n : Nat} {T : Tre} {R : List Cel × Int × Int} (h : Out room zs n T R) : (∃ new, R.1 = zs ++ new) ∧ ((R.2.1 = 0 ∧ PutP zs n T R.1 R.2.2) ∨ (R.2.1 = 2 ∧ room < zs.length + n)) := by
  obtain ⟨new, he, h⟩ := h
  refine ⟨⟨new, he⟩, ?_⟩
  rcases h with ⟨h1, h2, h3⟩ | ⟨h1, _, h3, _⟩
  · exact .inl ⟨h1, ⟨new, he, h3⟩, h2⟩
  · exact .inr ⟨h1, h3⟩
theorem Tr.down {zs : List Cel} (h : Bk zs) {k v i a b : Int} {s y : Int} (hi : 1 ≤ i ∧ i ≤ (zs.length : Int)) (hc : celAt zs i = ⟨a, b, k, v, s, y⟩) : a < i ∧ b < i := by
  unfold celAt at hc
  rw [if_pos hi.1, List.getD_eq_getElem?_getD, List.getElem?_eq_getElem (by omega)] at hc
  have := h _ _ (List.getElem?_eq_getElem (show i.toNat - 1 < zs.length by omega))
  simp only [Option.getD_some] at hc
  rw [hc] at this
  simp only at this
  omega
/-- What a call that tells a number and a bool, and makes memory, leaves. -/
def IntBoolM (i : Int) (is : Bool) (w : World) (e : Ending) (w' : World) : Prop := e = .returned (.tuple #[.int .i64 i, .bool is]) ∧ Below w.heap.size w w'
/-- What Move makes: the pairs' tree, of just as many cells. -/
def MoveP (zs : List Cel) (n : Nat) (T : Tre) (zs' : List Cel) (root' : Int) : Prop := (∃ new, zs' = zs ++ new ∧ new.length = n) ∧ Tr zs' T root'
end Go.Proofs.Ytbgepeokadmemaa.F
namespace Go.Proofs.Ytbgepeokadmemaa.F
open Go.ChangeShapes Go.WideShapes Go.ChangeAt Go.RowKit Base
/-- How high such a tree is. -/
def hg (n : Nat) : Nat := if n = 0 then 0 else 1 + hg (n / 2)
termination_by n
decreasing_by omega
theorem hg_zero : hg 0 = 0 := by rw [hg]; rfl
theorem hg_pos {n : Nat} (h : 0 < n) : hg n = 1 + hg (n / 2) := by rw [hg, if_neg (by omega)]
theorem hg_step : ∀ n, hg n ≤ hg (n + 1) ∧ hg (n + 1) ≤ hg n + 1 := by
  intro n
  induction n using Nat.strongRecOn with
  | ind n ih =>
    by_cases h : n = 0
    · subst h; have e := hg_pos (show 0 < 1 by omega); rw [show 1 / 2 = 0 from rfl, hg_zero] at e; rw [hg_zero, Nat.zero_add, e]; omega
    · rw [hg_pos (show 0 < n by omega), hg_pos (show 0 < n + 1 by omega)]
      rcases (show (n + 1) / 2 = n / 2 ∨ (n + 1) / 2 = n / 2 + 1 by omega) with e | e
      · rw [e]; omega
      · rw [e]; have := ih (n / 2) (by omega); omega
/-- What the builder's all makes: a tree of just as many cells; or there was no room for them. -/
def OutX (room : Nat) (zs : List Cel) (n : Nat) (T : Tre) (R : List Cel × Int × Int) : Prop :=
  ∃ new, R.1 = zs ++ new ∧ ((R.2.1 = 0 ∧ Tr R.1 T R.2.2 ∧ new.length = n) ∨ (R.2.1 = 2 ∧ R.1.length = room ∧ room < zs.length + n ∧ R.2.2 = 0))
/-- The same, whether there was room ahead of it or not. -/
def OX (room : Nat) (zs : List Cel) (why : Int) (n : Nat) (T : Tre) (R : List Cel × Int × Int) : Prop := (why = 0 ∧ OutX room zs n T R) ∨ (why = 2 ∧ zs.length = room ∧ R = (zs, 2, 0))
theorem OX.st {room : Nat} {zs : List Cel} {why : Int} {n : Nat} {T : Tre} {R : List Cel × Int × Int} (h : OX room zs why n T R) : (R.2.1 = 0 ∨ (R.2.1 = 2 ∧ R.1.length = room)) ∧ (0 ≤ R.2.2 ∧ R.2.2 ≤ (R.1.length : Int)) ∧ zs.length ≤ R.1.length := by
  rcases h with ⟨_, new, he, ⟨h1, h2, _⟩ | ⟨h1, h2, _, h3⟩⟩ | ⟨_, h1, rfl⟩
  · exact ⟨.inl h1, h2.le, by rw [he, List.length_append]; omega⟩
  · exact ⟨.inr ⟨h1, h2⟩, by omega, by rw [he, List.length_append]; omega⟩
  · exact ⟨.inr ⟨rfl, h1⟩, ⟨Int.le_refl _, Int.natCast_nonneg _⟩, Nat.le_refl _⟩
theorem all_comb {room : Nat} {zs : List Cel} {why : Int} {n1 n2 : Nat} {T1 T2 : Tre} {R1 R2 : List Cel × Int × Int} {k v : Int} (h1 : OX room zs why n1 T1 R1) (h2 : OX room R1.1 R1.2.1 n2 T2 R2) (hs1 : T1.size ≤ 1000000) (hs2 : T2.size ≤ 1000000) (hl : R2.1.length ≤ room) :
    OX room zs why (n1 + n2 + 1) (.node T1 k v T2) (putM room R2.1 R2.2.1 ⟨R1.2.2, R2.2.2, k, v, 0, 0⟩) := by
  rcases h1 with ⟨rfl, new1, e1, a1⟩ | ⟨rfl, f1, rfl⟩
  · refine .inl ⟨rfl, ?_⟩
    rcases a1 with ⟨b1, t1, l1⟩ | ⟨b1, f1, l1, i1⟩
    · rcases h2 with ⟨_, new2, e2, a2⟩ | ⟨c2, _, _⟩
      · rcases a2 with ⟨b2, t2, l2⟩ | ⟨b2, f2, l2, i2⟩
        · rw [b2]
          have ht1 : Tr R2.1 T1 R1.2.2 := by rw [e2]; exact t1.append _
          by_cases hr : R2.1.length < room
          · rw [putM_yes _ _ hr]
            refine ⟨new1 ++ (new2 ++ [sized R2.1 ⟨R1.2.2, R2.2.2, k, v, 0, 0⟩]), ?_, .inl ⟨rfl, put_tr (c := ⟨R1.2.2, R2.2.2, k, v, 0, 0⟩) ht1 t2 (by omega) (by omega), ?_⟩⟩
            · simp only [e2, e1, List.append_assoc]
            · simp; omega
          · rw [putM_no _ _ (by omega)]
            refine ⟨new1 ++ new2, by simp only [e2, e1, List.append_assoc], .inr ⟨rfl, by simp only; omega, ?_, rfl⟩⟩
            have : R2.1.length = zs.length + new1.length + new2.length := by rw [e2, e1]; simp; omega
            omega
        · rw [putM_no _ _ f2]
          refine ⟨new1 ++ new2, by simp only [e2, e1, List.append_assoc], .inr ⟨rfl, f2, ?_, rfl⟩⟩
          have : R1.1.length = zs.length + new1.length := by rw [e1]; simp
          omega
      · omega
    · rcases h2 with ⟨c2, _⟩ | ⟨_, _, rfl⟩
      · omega
      · rw [putM_no _ _ f1]
        exact ⟨new1, e1, .inr ⟨rfl, f1, by omega, rfl⟩⟩
  · rcases h2 with ⟨c2, _⟩ | ⟨_, _, rfl⟩
    · simp at c2
    · exact .inr ⟨rfl, f1, putM_no _ _ f1⟩
theorem half_div (n : Nat) : (n : Int) / 2 = ((n / 2 : Nat) : Int) := by omega
end Go.Proofs.Ytbgepeokadmemaa.F
namespace Go.Proofs.Ytbgepeokadmemaa.F
open Go.ChangeShapes Go.WideShapes Go.ChangeAt Go.RowKit Base
theorem ArV.ptr {w : World} {pv : Value} {o : Option Nat} {room : Nat} {zs : List Cel} (h : ArV w pv o room zs) : ∃ a, pv = .pointer a := by
  rcases h with ⟨rfl, _⟩ | ⟨b, rfl, _⟩
  · exact ⟨_, rfl⟩
  · exact ⟨_, rfl⟩
set_option maxRecDepth 100000 in
theorem fld_s (l r k v s h : Int) (w : World) : (Instr.field 66 (.agg #[.int .i64 l, .int .i64 r, .int .i64 k, .int .i64 v, .int .i64 s, .int .i64 h]) 4).run Try.prog w = .ok (.int .i64 s) w := by kernel_rfl
/-- What a call that tells a number, and makes memory, leaves. -/
def IntB (x : Int) (w : World) (e : Ending) (w' : World) : Prop := e = .returned (.int .i64 x) ∧ Below w.heap.size w w'
/-- What done leaves where all went well: the map. -/
def DoneY (pv : Value) (i y : Int) (w : World) (e : Ending) (w' : World) : Prop := e = .returned (.tuple #[.agg #[pv, .int .i64 i], .int .i64 y]) ∧ Below w.heap.size w w'
/-- What done leaves where there was no room: the cells that there were. -/
def DoneN (pv : Value) (o : Option Nat) (room : Nat) (zs : List Cel) (w : World) (e : Ending) (w' : World) : Prop := e = .returned (.tuple #[.agg #[pv, .int .i64 0], .int .i64 2]) ∧ ∃ o', ArV w' pv o' room zs ∧ Mv o o' w ∧ Fr (VF pv o) w w'
end Go.Proofs.Ytbgepeokadmemaa.F
namespace Go.Proofs.Ytbgepeokadmemaa.F
open Go.ChangeShapes Go.WideShapes Go.ChangeAt Go.RowKit Base
/-- A sequence's box. -/
def boxS (pv : Value) (root : Int) : Obj := .cells #[pv, .int .i64 root] 27
/-- What a call that tells a sequence, and makes memory, leaves. -/
def SeqIs (pv : Value) (root : Int) (w : World) (e : Ending) (w' : World) : Prop := e = .returned (.agg #[pv, .int .i64 root]) ∧ Below w.heap.size w w'
set_option maxRecDepth 100000 in
theorem psnew_some (b : Nat) (w : World) : Calls Try.prog 6 #[.pointer (some ⟨b, 0, none⟩)] w (SeqIs (.pointer (some ⟨b, 0, none⟩)) 0 w) := by
  go_enter Try.func6, Try.ntmps6
  go_wp2
  exact bodyPost_ret (v := .agg #[.pointer (some ⟨b, 0, none⟩), .int .i64 0]) (by simp [results, Try.results6, go_sem]) rfl ⟨rfl, by go_grown⟩
set_option maxRecDepth 100000 in
theorem psnew_nil (w : World) : Calls Try.prog 6 #[.pointer none] w (SeqIs (.pointer none) 0 w) := by
  go_enter Try.func6, Try.ntmps6
  go_wp2
  exact bodyPost_ret (v := .agg #[.pointer none, .int .i64 0]) (by simp [results, Try.results6, go_sem]) rfl ⟨rfl, by go_grown⟩
theorem psnew {pv : Value} {o : Option Nat} {room : Nat} {zs : List Cel} {w : World} (h : ArV w pv o room zs) : Calls Try.prog 6 #[pv] w (SeqIs pv 0 w) := by
  rcases h with ⟨rfl, _⟩ | ⟨b, rfl, _⟩
  · exact psnew_nil w
  · exact psnew_some b w
set_option maxRecDepth 100000 in
set_option maxHeartbeats 4000000 in
theorem pscell {pv : Value} {o : Option Nat} {room : Nat} {zs : List Cel} {w : World} (root i : Int) (h : ArV w pv o room zs) : Calls Try.prog 41 #[.agg #[pv, .int .i64 root], .int .i64 i] w (CelIs (celAt zs i) w) := by
  have HG : Hid (∀ wx, Below w.heap.size w wx → Calls Try.prog 48 #[pv, .int .i64 i] wx (GetPost (celAt zs i) (decide (1 ≤ i ∧ i ≤ (zs.length : Int))) wx)) := Lib.hid fun wx hb => arget_v i wx (h.below hb)
  generalize decide (1 ≤ i ∧ i ≤ (zs.length : Int)) = q at HG
  generalize celAt zs i = x at HG ⊢
  unfold GetPost Cel.agg at HG
  have hpv : ∃ a, pv = .pointer a := by
    rcases h with ⟨rfl, _⟩ | ⟨b, rfl, _⟩
    · exact ⟨_, rfl⟩
    · exact ⟨_, rfl⟩
  obtain ⟨a, rfl⟩ := hpv
  clear h
  go_enter Try.func41, Try.ntmps41
  go_wp2_with fail
  refine (HG.out _ (by go_grown)).mono ?_
  rintro e w1 ⟨rfl, hb⟩
  have HB : Hid (Below w.heap.size w w1) := Lib.hid (Below.trans (by go_grown) (hb.mono (by simp; omega)))
  have hz : w1.heap[w.heap.size + 1]? = some (.cells #[.int .i64 0, .int .i64 0, .int .i64 0, .int .i64 0, .int .i64 0, .int .i64 0] 66) := (hb.block _ (by simp)).trans (heap_alloc_at _ _ _ (by simp))
  have HZ : Hid ((w1.alloc (boxC x)).heap[w.heap.size + 1]? = some (boxC Cel.zero)) := Lib.hid (heap_alloc_lt w1 _ _ _ hz)
  have HB2 := Lib.hid (HB.out.alloc HB.out.size (boxC x))
  clear hb hz
  go_wp2_with (refine wpList_store_cel rfl (.tmp 4) (.tmp 14) rfl (w.heap.size + 1) x _ rfl rfl HZ.out ?_; intro w2 hst)
  exact bodyPost_ret (results_cel Try.results41 _ _ (w.heap.size + 1) x rfl hst.2.2.2.2.1) rfl ⟨rfl, hst.below HB2.out (by omega)⟩
set_option maxRecDepth 100000 in
theorem pslen {pv : Value} {o : Option Nat} {room : Nat} {zs : List Cel} {w : World} {t : Tre} {root : Int} (h : ArV w pv o room zs) (ht : Tr zs t root) : Calls Try.prog 18 #[.agg #[pv, .int .i64 root]] w (IntB (t.size : Int) w) := by
  obtain ⟨a, rfl⟩ := h.ptr
  have HB : Hid (Below w.heap.size w (w.alloc (boxS (.pointer a) root))) := Lib.hid ((Below.refl _ _).alloc (Nat.le_refl _) _)
  have HC := Lib.hid (pscell root root (h.below HB.out))
  have he := ht.root.1
  have hf := fld_s
  clear h
  rw [← he]
  go_enter Try.func18, Try.ntmps18
  go_wp2_with fail
  refine HC.out.mono ?_
  rintro e w1 ⟨rfl, hb⟩
  clear he
  go_wp2_with fail
  go_ret
  exact ⟨rfl, HB.out.trans (hb.mono HB.out.size)⟩
set_option maxRecDepth 100000 in
theorem pshigh {pv : Value} {o : Option Nat} {room : Nat} {zs : List Cel} {w : World} {t : Tre} {root : Int} (h : ArV w pv o room zs) (ht : Tr zs t root) : Calls Try.prog 19 #[.agg #[pv, .int .i64 root]] w (IntB (t.high : Int) w) := by
  obtain ⟨a, rfl⟩ := h.ptr
  have HB : Hid (Below w.heap.size w (w.alloc (boxS (.pointer a) root))) := Lib.hid ((Below.refl _ _).alloc (Nat.le_refl _) _)
  have HC := Lib.hid (pscell root root (h.below HB.out))
  have he := ht.root.2
  have hf := fld_h
  clear h
  rw [← he]
  go_enter Try.func19, Try.ntmps19
  go_wp2_with fail
  refine HC.out.mono ?_
  rintro e w1 ⟨rfl, hb⟩
  clear he
  go_wp2_with fail
  go_ret
  exact ⟨rfl, HB.out.trans (hb.mono HB.out.size)⟩
set_option maxRecDepth 100000 in
theorem psgap (i : Int) (w : World) (hb : -4000000000000000000 ≤ i ∧ i ≤ 4000000000000000000) : Calls Try.prog 33 #[.int .i64 i] w fun e w' => e = .returned (.int .i64 (2 * i)) ∧ w = w' := by
  obtain ⟨h1, h2⟩ := hb
  go_enter Try.func33, Try.ntmps33
  go_wp2
  go_ret
  exact ⟨rfl, rfl⟩
set_option maxRecDepth 100000 in
theorem psplace (i : Int) (w : World) (hb : -4000000000000000000 ≤ i ∧ i ≤ 4000000000000000000) : Calls Try.prog 37 #[.int .i64 i] w fun e w' => e = .returned (.int .i64 (2 * i + 1)) ∧ w = w' := by
  obtain ⟨h1, h2⟩ := hb
  go_enter Try.func37, Try.ntmps37
  go_wp2
  go_ret
  exact ⟨rfl, rfl⟩
end Go.Proofs.Ytbgepeokadmemaa.F
namespace Go.Proofs.Ytbgepeokadmemaa.F
open Go.ChangeShapes Go.WideShapes Go.ChangeAt Go.RowKit Base
/-- An editor's block. -/
def edt (pv : Value) (root had why : Int) : Obj := .cells #[pv, .int .i64 root, .int .i64 had, .int .i64 why] 74
/-- Block B is an editor, over an arena. -/
def EDI (w : World) (B : Nat) (pv : Value) (o : Option Nat) (root had : Int) (room : Nat) (zs : List Cel) (why : Int) : Prop := w.heap[B]? = some (edt pv root had why) ∧ ArV w pv o room zs
theorem EDI.nv {w : World} {B : Nat} {pv : Value} {o : Option Nat} {root had : Int} {room : Nat} {zs : List Cel} {why : Int} (h : EDI w B pv o root had room zs why) : ¬ VF pv o B := fun k => by
  obtain ⟨hB, h⟩ := h
  unfold edt at hB
  rcases h with ⟨rfl, rfl, _, _⟩ | ⟨b, rfl, h⟩
  · rcases k with k | k <;> cases k
  · obtain ⟨_, _, _, _, v, hb, hown, rfl⟩ := h
    rcases k with k | k
    · injection k with k; injection k with k; injection k with k
      subst k
      rw [hb] at hB
      simp only [Option.some.injEq, Obj.cells.injEq] at hB
      exact absurd hB.2.1 (by decide)
    · rcases hown.2 with ⟨rfl, _⟩ | ⟨g, cap, cur, rfl, _, hg, _⟩
      · cases k
      · simp only [Value.ownBlock, Option.some.injEq] at k
        subst k
        rw [hg] at hB
        simp only [Option.some.injEq, Obj.cells.injEq] at hB
        exact absurd hB.2.1 (by decide)
theorem EDI.below {w w' : World} {B : Nat} {pv : Value} {o : Option Nat} {root had : Int} {room : Nat} {zs : List Cel} {why : Int} (h : EDI w B pv o root had room zs why) (hb : Below w.heap.size w w') : EDI w' B pv o root had room zs why :=
  ⟨(hb.block _ (heap_lt h.1)).trans h.1, h.2.below hb⟩
/-- What an editor's call leaves: a value, more cells, an error or none; all but the editor and its arena is as it was. -/
def EDP (B : Nat) (pv : Value) (o : Option Nat) (root had : Int) (room : Nat) (zs' : List Cel) (why' : Int) (v : Value) (w : World) (e : Ending) (w' : World) : Prop :=
  e = .returned v ∧ ∃ o', EDI w' B pv o' root had room zs' why' ∧ Mv o o' w ∧ Fr (BF B pv o) w w'
theorem ecells {w : World} {B : Nat} {pv : Value} {root had why : Int} (h : w.heap[B]? = some (edt pv root had why)) : B < w.heap.size ∧ (w.cell? ⟨B, 0, none⟩ = some pv ∧ w.cell? ⟨B, 1, none⟩ = some (.int .i64 root)) ∧ (w.cell? ⟨B, 2, none⟩ = some (.int .i64 had) ∧ w.cell? ⟨B, 3, none⟩ = some (.int .i64 why)) ∧ w.frozen? ⟨B, 3, none⟩ = false := by
  refine ⟨heap_lt h, ?_⟩
  unfold edt at h
  simp [World.cell?, World.frozen?, h]
theorem EDI.setwhy {w : World} {B : Nat} {pv : Value} {o : Option Nat} {root had : Int} {room : Nat} {zs : List Cel} {why : Int} (h : EDI w B pv o root had room zs why) (y : Int) : EDI (w.setCell ⟨B, 3, none⟩ (.int .i64 y)) B pv o root had room zs y ∧ Fr (fun g => g = B) w (w.setCell ⟨B, 3, none⟩ (.int .i64 y)) := by
  have hf : Fr (fun g => g = B) w (w.setCell ⟨B, 3, none⟩ (.int .i64 y)) := Fr.setCell (F := fun g => g = B) (Fr.refl _ _) (b := B) rfl 3 _
  have hn := h.nv
  refine ⟨⟨?_, h.2.fr hf (fun g hv e => hn (e ▸ hv))⟩, hf⟩
  have := h.1
  unfold edt at this ⊢
  simp [World.setCell, Array.getElem?_modify, this]
/-- An editor, on the way from w0 on; some boxes of the call's own. -/
def EDS (B : Nat) (pv : Value) (root had : Int) (room : Nat) (w0 : World) (o0 : Option Nat) (w : World) (o : Option Nat) (zs : List Cel) (why : Int) (bs : List (Nat × Obj)) : Prop :=
  EDI w B pv o root had room zs why ∧ Mv o0 o w0 ∧ Fr (BF B pv o0) w0 w ∧ (∀ p ∈ bs, w.heap[p.1]? = some p.2 ∧ ¬ BF B pv o p.1 ∧ w0.heap.size ≤ p.1) ∧ bs.Pairwise (fun p q => p.1 ≠ q.1)
section
variable {B : Nat} {pv : Value} {root had : Int} {room : Nat} {w0 w w' : World} {o0 o : Option Nat} {zs : List Cel} {why : Int} {bs : List (Nat × Obj)}
theorem EDI.bf (h : EDI w B pv o root had room zs why) {g : Nat} (k : BF B pv o g) : g < w.heap.size := by
  rcases k with rfl | k
  · exact heap_lt h.1
  · exact h.2.lt _ k
theorem EDS.start (h : EDI w B pv o root had room zs why) : EDS B pv root had room w o w o zs why [] := ⟨h, Mv.refl _ _, Fr.refl _ _, fun _ hp => (List.not_mem_nil hp).elim, List.Pairwise.nil⟩
theorem EDS.bi (h : EDS B pv root had room w0 o0 w o zs why bs) : EDI w B pv o root had room zs why := h.1
theorem EDS.below (h : EDS B pv root had room w0 o0 w o zs why bs) (hb : Below w.heap.size w w') : EDS B pv root had room w0 o0 w' o zs why bs :=
  ⟨h.1.below hb, h.2.1, h.2.2.1.trans (Fr.of_below (F := fun _ => False) hb) (fun _ _ e => e.elim), fun p hp => ⟨(hb.block _ (heap_lt (h.2.2.2.1 p hp).1)).trans (h.2.2.2.1 p hp).1, (h.2.2.2.1 p hp).2⟩, h.2.2.2.2⟩
theorem EDS.drew (h : EDS B pv root had room w0 o0 w o zs why bs) : EDS B pv root had room w0 o0 w.drew o zs why bs := h.below (Below.refl _ _).drew
theorem EDS.alloc (h : EDS B pv root had room w0 o0 w o zs why bs) (ob : Obj) : EDS B pv root had room w0 o0 (w.alloc ob) o zs why ((w.heap.size, ob) :: bs) := by
  have h2 := h.below ((Below.refl _ _).alloc (Nat.le_refl _) ob)
  refine ⟨h2.1, h2.2.1, h2.2.2.1, fun p hp => ?_, List.Pairwise.cons (fun p hp e => ?_) h2.2.2.2.2⟩
  · rcases List.mem_cons.1 hp with rfl | hp
    · exact ⟨heap_alloc_at _ _ _ rfl, fun k => Nat.lt_irrefl _ (h.1.bf k), h.2.2.1.size⟩
    · exact h2.2.2.2.1 p hp
  · have := heap_lt (h.2.2.2.1 p hp).1
    simp only at e
    omega
theorem EDS.store {g : Nat} {ob ob' : Obj} (h : EDS B pv root had room w0 o0 w o zs why ((g, ob) :: bs)) (hs : Stored w g ob' w') : EDS B pv root had room w0 o0 w' o zs why ((g, ob') :: bs) := by
  obtain ⟨h1, h2, h3, h4, h5⟩ := h
  have hg := h4 (g, ob) (List.mem_cons_self ..)
  obtain ⟨hp1, hp2⟩ := List.pairwise_cons.1 h5
  have hf : Fr (fun k => k = g) w w' := ⟨hs.1, hs.2.1, hs.2.2.1, by rw [hs.2.2.2.1]; exact Nat.le_refl _, fun k _ hn => hs.2.2.2.2.2 k hn⟩
  refine ⟨⟨(hs.2.2.2.2.2 B (fun e => hg.2.1 (.inl e.symm))).trans h1.1, h1.2.fr hf (fun k hv e => hg.2.1 (.inr (e ▸ hv)))⟩, h2, h3.trans hf (fun k hk e => by have := hg.2.2; simp only at this; omega), fun p hp => ?_, List.pairwise_cons.2 ⟨hp1, hp2⟩⟩
  rcases List.mem_cons.1 hp with rfl | hp
  · exact ⟨hs.2.2.2.2.1, hg.2⟩
  · have := h4 p (List.mem_cons_of_mem _ hp)
    exact ⟨(hs.2.2.2.2.2 p.1 (fun e => hp1 p hp e.symm)).trans this.1, this.2⟩
theorem EDS.swap {p q : Nat × Obj} (h : EDS B pv root had room w0 o0 w o zs why (p :: q :: bs)) : EDS B pv root had room w0 o0 w o zs why (q :: p :: bs) := by
  obtain ⟨h1, h2, h3, h4, h5⟩ := h
  obtain ⟨hp1, hp2⟩ := List.pairwise_cons.1 h5
  obtain ⟨hq1, hq2⟩ := List.pairwise_cons.1 hp2
  refine ⟨h1, h2, h3, fun r hr => h4 r ?_, List.pairwise_cons.2 ⟨fun r hr => ?_, List.pairwise_cons.2 ⟨fun r hr => hp1 r (List.mem_cons_of_mem _ hr), hq2⟩⟩⟩
  · rcases List.mem_cons.1 hr with rfl | hr
    · simp
    · rcases List.mem_cons.1 hr with rfl | hr
      · simp
      · simp [hr]
  · rcases List.mem_cons.1 hr with rfl | hr
    · exact fun e => hp1 q (List.mem_cons_self ..) e.symm
    · exact hq1 r hr
theorem EDS.rot {p q r : Nat × Obj} (h : EDS B pv root had room w0 o0 w o zs why (p :: q :: r :: bs)) : EDS B pv root had room w0 o0 w o zs why (r :: p :: q :: bs) := by
  obtain ⟨h1, h2, h3, h4, h5⟩ := h
  refine ⟨h1, h2, h3, fun x hx => h4 x (by simp only [List.mem_cons] at hx ⊢; rcases hx with e | e | e | e <;> simp [e]), ?_⟩
  simp only [List.pairwise_cons, List.mem_cons] at h5 ⊢
  obtain ⟨a, b, c, d⟩ := h5
  refine ⟨fun x hx => ?_, fun x hx => ?_, fun x hx => b x (.inr hx), d⟩
  · rcases hx with rfl | rfl | hx
    · exact fun e => a _ (.inr (.inl rfl)) e.symm
    · exact fun e => b _ (.inl rfl) e.symm
    · exact c x hx
  · rcases hx with rfl | hx
    · exact a _ (.inl rfl)
    · exact a _ (.inr (.inr hx))
theorem EDS.at_ (h : EDS B pv root had room w0 o0 w o zs why bs) {g : Nat} {ob : Obj} (hp : (g, ob) ∈ bs) : w.heap[g]? = some ob := (h.2.2.2.1 (g, ob) hp).1
theorem EDS.call {zs' : List Cel} {why' : Int} {v : Value} {e : Ending} (h : EDS B pv root had room w0 o0 w o zs why bs) (hs : EDP B pv o root had room zs' why' v w e w') : e = .returned v ∧ ∃ o', Hid (EDS B pv root had room w0 o0 w' o' zs' why' bs) := by
  obtain ⟨he, o', h1, h2, h3⟩ := hs
  obtain ⟨k1, k2, k3, k4, k5⟩ := h
  refine ⟨he, o', Lib.hid ⟨h1, k2.trans h2 k3.size, k3.trans h3 (fun g hg k => k2.bf g hg k), fun p hp => ?_, k5⟩⟩
  have := k4 p hp
  exact ⟨(h3.block (heap_lt this.1) this.2.1).trans this.1, fun k => this.2.1 (h2.bf _ (heap_lt this.1) k), this.2.2⟩
theorem EDS.done (h : EDS B pv root had room w0 o0 w o zs why bs) (v : Value) : EDP B pv o0 root had room zs why v w0 (.returned v) w := ⟨rfl, o, h.1, h.2.1, h.2.2.1⟩
theorem EDS.scells (h : EDS B pv root had room w0 o0 w o zs why bs) : w.cell? ⟨B, 0, none⟩ = some pv ∧ w.cell? ⟨B, 1, none⟩ = some (.int .i64 root) := (ecells h.1.1).2.1
theorem EDS.box (h : EDS B pv root had room w0 o0 w o zs why bs) {g : Nat} {c : Cel} (hp : (g, boxC c) ∈ bs) : w.cell? ⟨g, 0, none⟩ = some (.int .i64 c.l) ∧ w.cell? ⟨g, 1, none⟩ = some (.int .i64 c.r) ∧ w.cell? ⟨g, 2, none⟩ = some (.int .i64 c.k) ∧ w.cell? ⟨g, 3, none⟩ = some (.int .i64 c.v) ∧ w.cell? ⟨g, 4, none⟩ = some (.int .i64 c.s) ∧ w.cell? ⟨g, 5, none⟩ = some (.int .i64 c.h) := (cellsC (h.at_ hp)).2
theorem EDS.fro (h : EDS B pv root had room w0 o0 w o zs why bs) {g : Nat} {c : Cel} (hp : (g, boxC c) ∈ bs) : w.frozen? ⟨g, 0, none⟩ = false ∧ w.frozen? ⟨g, 1, none⟩ = false ∧ w.frozen? ⟨g, 2, none⟩ = false ∧ w.frozen? ⟨g, 3, none⟩ = false ∧ w.frozen? ⟨g, 4, none⟩ = false ∧ w.frozen? ⟨g, 5, none⟩ = false := frozC (h.at_ hp)
end
end Go.Proofs.Ytbgepeokadmemaa.F
