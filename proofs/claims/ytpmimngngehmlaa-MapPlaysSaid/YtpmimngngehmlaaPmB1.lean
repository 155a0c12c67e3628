/-
  A builder on its way: what stays while cells are put and read; what its turns make. Not a statement of the seat.
-/
import Derived.Test.YtpmimngngehmlaaPmB0
namespace Go.Proofs.Ytpmimngngehmlaa.F
open Go.ChangeShapes Go.WideShapes Go.ChangeAt Go.RowKit Base
/-- A builder, on the way from w0 on; some boxes of the call's own. -/
def BS (B : Nat) (pv : Value) (root had : Int) (room : Nat) (w0 : World) (o0 : Option Nat) (w : World) (o : Option Nat) (zs : List Cel) (why : Int) (bs : List (Nat × Obj)) : Prop :=
  BI w B pv o root had room zs why ∧ Mv o0 o w0 ∧ Fr (BF B pv o0) w0 w ∧ (∀ p ∈ bs, w.heap[p.1]? = some p.2 ∧ ¬ BF B pv o p.1 ∧ w0.heap.size ≤ p.1) ∧ bs.Pairwise (fun p q => p.1 ≠ q.1)
section
variable {B : Nat} {pv : Value} {root had : Int} {room : Nat} {w0 w w' : World} {o0 o : Option Nat} {zs : List Cel} {why : Int} {bs : List (Nat × Obj)}
theorem BI.bf (h : BI w B pv o root had room zs why) {g : Nat} (k : BF B pv o g) : g < w.heap.size := by
  rcases k with rfl | k
  · exact heap_lt h.1
  · exact h.2.lt _ k
theorem BS.start (h : BI w B pv o root had room zs why) : BS B pv root had room w o w o zs why [] := ⟨h, Mv.refl _ _, Fr.refl _ _, fun _ hp => (List.not_mem_nil hp).elim, List.Pairwise.nil⟩
theorem BS.bi (h : BS B pv root had room w0 o0 w o zs why bs) : BI w B pv o root had room zs why := h.1
theorem BS.below (h : BS B pv root had room w0 o0 w o zs why bs) (hb : Below w.heap.size w w') : BS B pv root had room w0 o0 w' o zs why bs :=
  ⟨h.1.below hb, h.2.1, h.2.2.1.trans (Fr.of_below (F := fun _ => False) hb) (fun _ _ e => e.elim), fun p hp => ⟨(hb.block _ (heap_lt (h.2.2.2.1 p hp).1)).trans (h.2.2.2.1 p hp).1, (h.2.2.2.1 p hp).2⟩, h.2.2.2.2⟩
theorem BS.drew (h : BS B pv root had room w0 o0 w o zs why bs) : BS B pv root had room w0 o0 w.drew o zs why bs := h.below (Below.refl _ _).drew
theorem BS.alloc (h : BS B pv root had room w0 o0 w o zs why bs) (ob : Obj) : BS B pv root had room w0 o0 (w.alloc ob) o zs why ((w.heap.size, ob) :: bs) := by
  have h2 := h.below ((Below.refl _ _).alloc (Nat.le_refl _) ob)
  refine ⟨h2.1, h2.2.1, h2.2.2.1, fun p hp => ?_, List.Pairwise.cons (fun p hp e => ?_) h2.2.2.2.2⟩
  · rcases List.mem_cons.1 hp with rfl | hp
    · exact ⟨heap_alloc_at _ _ _ rfl, fun k => Nat.lt_irrefl _ (h.1.bf k), h.2.2.1.size⟩
    · exact h2.2.2.2.1 p hp
  · have := heap_lt (h.2.2.2.1 p hp).1
    simp only at e
    omega
theorem BS.store {g : Nat} {ob ob' : Obj} (h : BS B pv root had room w0 o0 w o zs why ((g, ob) :: bs)) (hs : Stored w g ob' w') : BS B pv root had room w0 o0 w' o zs why ((g, ob') :: bs) := by
  obtain ⟨h1, h2, h3, h4, h5⟩ := h
  have hg := h4 (g, ob) (List.mem_cons_self ..)
  obtain ⟨hp1, hp2⟩ := List.pairwise_cons.1 h5
  have hf : Fr (fun k => k = g) w w' := ⟨hs.1, hs.2.1, hs.2.2.1, by rw [hs.2.2.2.1]; exact Nat.le_refl _, fun k _ hn => hs.2.2.2.2.2 k hn⟩
  refine ⟨⟨(hs.2.2.2.2.2 B (fun e => hg.2.1 (.inl e.symm))).trans h1.1, h1.2.fr hf (fun k hv e => hg.2.1 (.inr (e ▸ hv)))⟩, h2, h3.trans hf (fun k hk e => by have := hg.2.2; simp only at this; omega), fun p hp => ?_, List.pairwise_cons.2 ⟨hp1, hp2⟩⟩
  rcases List.mem_cons.1 hp with rfl | hp
  · exact ⟨hs.2.2.2.2.1, hg.2⟩
  · have := h4 p (List.mem_cons_of_mem _ hp)
    exact ⟨(hs.2.2.2.2.2 p.1 (fun e => hp1 p hp e.symm)).trans this.1, this.2⟩
theorem BS.swap {p q : Nat × Obj} (h : BS B pv root had room w0 o0 w o zs why (p :: q :: bs)) : BS B pv root had room w0 o0 w o zs why (q :: p :: bs) := by
  obtain ⟨h1, h2, h3, h4, h5⟩ := h
  obtain ⟨hp1, hp2⟩ := List.pairwise_cons.1 h5
  obtain ⟨hq1, hq2⟩ := List.pairwise_cons.1 hp2
  refine ⟨h1, h2, h3, fun r hr => h4 r ?_, List.pairwise_cons.2 ⟨fun r hr => ?_, List.pairwise_cons.2 ⟨fun r hr => hp1 r (List.mem_cons_of_mem _ hr), hq2⟩⟩⟩
  · rcases List.mem_cons.1 hr with rfl | hr
    · simp
    · rcases List.mem_cons.1 hr with rfl | hr
      · simp
      · simp [hr]
  · rcases List.mem_cons.1 hr with rfl | hr
    · exact fun e => hp1 q (List.mem_cons_self ..) e.symm
    · exact hq1 r hr
theorem BS.rot {p q r : Nat × Obj} (h : BS B pv root had room w0 o0 w o zs why (p :: q :: r :: bs)) : BS B pv root had room w0 o0 w o zs why (r :: p :: q :: bs) := by
  obtain ⟨h1, h2, h3, h4, h5⟩ := h
  refine ⟨h1, h2, h3, fun x hx => h4 x (by simp only [List.mem_cons] at hx ⊢; rcases hx with e | e | e | e <;> simp [e]), ?_⟩
  simp only [List.pairwise_cons, List.mem_cons] at h5 ⊢
  obtain ⟨a, b, c, d⟩ := h5
  refine ⟨fun x hx => ?_, fun x hx => ?_, fun x hx => b x (.inr hx), d⟩
  · rcases hx with rfl | rfl | hx
    · exact fun e => a _ (.inr (.inl rfl)) e.symm
    · exact fun e => b _ (.inl rfl) e.symm
    · exact c x hx
  · rcases hx with rfl | hx
    · exact a _ (.inl rfl)
    · exact a _ (.inr (.inr hx))
theorem BS.at_ (h : BS B pv root had room w0 o0 w o zs why bs) {g : Nat} {ob : Obj} (hp : (g, ob) ∈ bs) : w.heap[g]? = some ob := (h.2.2.2.1 (g, ob) hp).1
theorem BS.call {zs' : List Cel} {why' : Int} {v : Value} {e : Ending} (h : BS B pv root had room w0 o0 w o zs why bs) (hs : BP B pv o root had room zs' why' v w e w') : e = .returned v ∧ ∃ o', Hid (BS B pv root had room w0 o0 w' o' zs' why' bs) := by
  obtain ⟨he, o', h1, h2, h3⟩ := hs
  obtain ⟨k1, k2, k3, k4, k5⟩ := h
  refine ⟨he, o', Lib.hid ⟨h1, k2.trans h2 k3.size, k3.trans h3 (fun g hg k => k2.bf g hg k), fun p hp => ?_, k5⟩⟩
  have := k4 p hp
  exact ⟨(h3.block (heap_lt this.1) this.2.1).trans this.1, fun k => this.2.1 (h2.bf _ (heap_lt this.1) k), this.2.2⟩
theorem BS.done (h : BS B pv root had room w0 o0 w o zs why bs) (v : Value) : BP B pv o0 root had room zs why v w0 (.returned v) w := ⟨rfl, o, h.1, h.2.1, h.2.2.1⟩
theorem BS.scells (h : BS B pv root had room w0 o0 w o zs why bs) : w.cell? ⟨B, 0, none⟩ = some pv ∧ w.cell? ⟨B, 1, none⟩ = some (.int .i64 root) := (bcells h.1.1).2.1
theorem BS.box (h : BS B pv root had room w0 o0 w o zs why bs) {g : Nat} {c : Cel} (hp : (g, boxC c) ∈ bs) : w.cell? ⟨g, 0, none⟩ = some (.int .i64 c.l) ∧ w.cell? ⟨g, 1, none⟩ = some (.int .i64 c.r) ∧ w.cell? ⟨g, 2, none⟩ = some (.int .i64 c.k) ∧ w.cell? ⟨g, 3, none⟩ = some (.int .i64 c.v) ∧ w.cell? ⟨g, 4, none⟩ = some (.int .i64 c.s) ∧ w.cell? ⟨g, 5, none⟩ = some (.int .i64 c.h) := (cellsC (h.at_ hp)).2
theorem BS.fro (h : BS B pv root had room w0 o0 w o zs why bs) {g : Nat} {c : Cel} (hp : (g, boxC c) ∈ bs) : w.frozen? ⟨g, 0, none⟩ = false ∧ w.frozen? ⟨g, 1, none⟩ = false ∧ w.frozen? ⟨g, 2, none⟩ = false ∧ w.frozen? ⟨g, 3, none⟩ = false ∧ w.frozen? ⟨g, 4, none⟩ = false ∧ w.frozen? ⟨g, 5, none⟩ = false := frozC (h.at_ hp)
end
theorem stored_cell {w : World} {g : Nat} {cs : Array Value} {t : TypeId} (h : w.heap[g]? = some (.cells cs t)) (k : Nat) (v : Value) : Stored w g (.cells (cs.setIfInBounds k v) t) (w.setCell ⟨g, k, none⟩ v) := by
  refine ⟨rfl, rfl, rfl, by simp [World.setCell], ?_, fun j hj => Below.heap_setCell _ _ _ _ hj⟩
  simp [World.setCell, Array.getElem?_modify, h]
theorem stored_l {w : World} {g : Nat} {c : Cel} (h : w.heap[g]? = some (boxC c)) (x : Int) : Stored w g (boxC ⟨x, c.r, c.k, c.v, c.s, c.h⟩) (w.setCell ⟨g, 0, none⟩ (.int .i64 x)) := stored_cell h 0 _
theorem stored_r {w : World} {g : Nat} {c : Cel} (h : w.heap[g]? = some (boxC c)) (x : Int) : Stored w g (boxC ⟨c.l, x, c.k, c.v, c.s, c.h⟩) (w.setCell ⟨g, 1, none⟩ (.int .i64 x)) := stored_cell h 1 _
theorem stored_k {w : World} {g : Nat} {c : Cel} (h : w.heap[g]? = some (boxC c)) (x : Int) : Stored w g (boxC ⟨c.l, c.r, x, c.v, c.s, c.h⟩) (w.setCell ⟨g, 2, none⟩ (.int .i64 x)) := stored_cell h 2 _
theorem stored_v {w : World} {g : Nat} {c : Cel} (h : w.heap[g]? = some (boxC c)) (x : Int) : Stored w g (boxC ⟨c.l, c.r, c.k, x, c.s, c.h⟩) (w.setCell ⟨g, 3, none⟩ (.int .i64 x)) := stored_cell h 3 _
/-- A field of a box is stored, in a drawn region. -/
theorem wp_store_fld {o : Oper} {a : Act} {w : World} {K : Act → World → Prop} {Q : Exit → Act → World → Prop} (x y : Operand) (ho : o.op = .store 3 x y)
    (g k : Nat) (z : Int) (c c' : Cel) (hk : k < 6) (hx : a.eval x = .pointer (some ⟨g, k, none⟩)) (hy : a.eval y = .int .i64 z) (hg : w.heap[g]? = some (boxC c)) (hc : (#[.int .i64 c.l, .int .i64 c.r, .int .i64 c.k, .int .i64 c.v, .int .i64 c.s, .int .i64 c.h] : Array Value).setIfInBounds k (.int .i64 z) = #[.int .i64 c'.l, .int .i64 c'.r, .int .i64 c'.k, .int .i64 c'.v, .int .i64 c'.s, .int .i64 c'.h])
    (h : ∀ w', Stored w g (boxC c') w' → K (a.put o.dst undef) w') : o.wp Try.prog a w K Q := by
  have hst := stored_cell hg k (.int .i64 z)
  rw [hc] at hst
  have h1 := (cellsC hg).2
  have h2 := frozC hg
  have hcell : ∃ v, w.cell? ⟨g, k, none⟩ = some v := by
    rcases (show k = 0 ∨ k = 1 ∨ k = 2 ∨ k = 3 ∨ k = 4 ∨ k = 5 by omega) with rfl | rfl | rfl | rfl | rfl | rfl <;> simp [h1]
  have hfro : w.frozen? ⟨g, k, none⟩ = false := by
    rcases (show k = 0 ∨ k = 1 ∨ k = 2 ∨ k = 3 ∨ k = 4 ∨ k = 5 by omega) with rfl | rfl | rfl | rfl | rfl | rfl <;> simp [h2]
  obtain ⟨v, hcell⟩ := hcell
  obtain ⟨dst, op, type, pos, after, guard⟩ := o
  simp only at ho
  subst ho
  have hK := h _ hst
  clear hst h1 h2 hc h hg
  unfold Oper.wp execOp
  simp only [hx, hy]
  go_simp
  exact hK
set_option maxRecDepth 100000 in
theorem fld_h (l r k v s h : Int) (w : World) : (Instr.field 110 (.agg #[.int .i64 l, .int .i64 r, .int .i64 k, .int .i64 v, .int .i64 s, .int .i64 h]) 5).run Try.prog w = .ok (.int .i64 h) w := by kernel_rfl
/-- A cell points to cells that are there. -/
theorem celAt_fit {zs : List Cel} (h : Bk zs) (i : Int) : fitC (celAt zs i) zs.length := by
  unfold celAt fitC
  split
  · rw [List.getD_eq_getElem?_getD]
    by_cases hi : i.toNat - 1 < zs.length
    · have := h _ _ (List.getElem?_eq_getElem hi)
      rw [List.getElem?_eq_getElem hi]
      simp only [Option.getD_some]
      omega
    · rw [List.getElem?_eq_none (by omega)]
      simp [Cel.zero]
  · simp [Cel.zero]
theorem celAt_ok {zs : List Cel} (h : ∀ x ∈ zs, x.ok) (i : Int) : (celAt zs i).ok := by
  have hz : Cel.zero.ok := by unfold Cel.ok Cel.zero; simp
  unfold celAt
  split
  · rw [List.getD_eq_getElem?_getD]
    by_cases hi : i.toNat - 1 < zs.length
    · rw [List.getElem?_eq_getElem hi]
      exact h _ (List.getElem_mem hi)
    · rw [List.getElem?_eq_none (by omega)]
      exact hz
  · exact hz
theorem putM_le (room : Nat) (zs : List Cel) (why : Int) (c : Cel) : zs.length ≤ (putM room zs why c).1.length ∧ 0 ≤ (putM room zs why c).2.2 ∧ (putM room zs why c).2.2 ≤ ((putM room zs why c).1.length : Int) := by
  unfold putM
  split
  · simp; omega
  · simp
theorem putM_le2 (room : Nat) (zs : List Cel) (why : Int) (c : Cel) : (putM room zs why c).1.length ≤ zs.length + 1 := by
  unfold putM
  split
  · simp
  · simp
theorem fitC.mono {c : Cel} {n m : Nat} (h : fitC c n) (hn : n ≤ m) : fitC c m := by
  unfold fitC at *
  omega
/-- What the builder's turns make. -/
def turnRM (room : Nat) (zs : List Cel) (why : Int) (c : Cel) : List Cel × Int × Int :=
  if (celAt zs (celAt zs c.l).r).h ≤ (celAt zs (celAt zs c.l).l).h then
    putM room (putM room zs why ⟨(celAt zs c.l).r, c.r, c.k, c.v, c.s, c.h⟩).1 (putM room zs why ⟨(celAt zs c.l).r, c.r, c.k, c.v, c.s, c.h⟩).2.1 ⟨(celAt zs c.l).l, (putM room zs why ⟨(celAt zs c.l).r, c.r, c.k, c.v, c.s, c.h⟩).2.2, (celAt zs c.l).k, (celAt zs c.l).v, (celAt zs c.l).s, (celAt zs c.l).h⟩
  else
    let m := celAt zs (celAt zs c.l).r
    let p1 := putM room zs why ⟨(celAt zs c.l).l, m.l, (celAt zs c.l).k, (celAt zs c.l).v, (celAt zs c.l).s, (celAt zs c.l).h⟩
    let p2 := putM room p1.1 p1.2.1 ⟨m.r, c.r, c.k, c.v, c.s, c.h⟩
    putM room p2.1 p2.2.1 ⟨p1.2.2, p2.2.2, m.k, m.v, m.s, m.h⟩
def turnLM (room : Nat) (zs : List Cel) (why : Int) (c : Cel) : List Cel × Int × Int :=
  if (celAt zs (celAt zs c.r).l).h ≤ (celAt zs (celAt zs c.r).r).h then
    putM room (putM room zs why ⟨c.l, (celAt zs c.r).l, c.k, c.v, c.s, c.h⟩).1 (putM room zs why ⟨c.l, (celAt zs c.r).l, c.k, c.v, c.s, c.h⟩).2.1 ⟨(putM room zs why ⟨c.l, (celAt zs c.r).l, c.k, c.v, c.s, c.h⟩).2.2, (celAt zs c.r).r, (celAt zs c.r).k, (celAt zs c.r).v, (celAt zs c.r).s, (celAt zs c.r).h⟩
  else
    let m := celAt zs (celAt zs c.r).l
    let p1 := putM room zs why ⟨m.r, (celAt zs c.r).r, (celAt zs c.r).k, (celAt zs c.r).v, (celAt zs c.r).s, (celAt zs c.r).h⟩
    let p2 := putM room p1.1 p1.2.1 ⟨c.l, m.l, c.k, c.v, c.s, c.h⟩
    putM room p2.1 p2.2.1 ⟨p2.2.2, p1.2.2, m.k, m.v, m.s, m.h⟩
def levelM (room : Nat) (zs : List Cel) (why : Int) (c : Cel) : List Cel × Int × Int :=
  if 1 < wrap64 ((celAt zs c.l).h - (celAt zs c.r).h) then turnRM room zs why c else if wrap64 ((celAt zs c.l).h - (celAt zs c.r).h) < -1 then turnLM room zs why c else putM room zs why c
end Go.Proofs.Ytpmimngngehmlaa.F
