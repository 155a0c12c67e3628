/-
  What a builder of maps is in memory; what stays while cells are put. Not a statement of the seat.
-/
import Derived.Test.YtpmimngngehmlaaPm1
namespace Go.Proofs.Ytpmimngngehmlaa.F
open Go.ChangeShapes Go.WideShapes Go.ChangeAt Go.RowKit Base
/-- A builder's block. -/
def bld (pv : Value) (root had why : Int) : Obj := .cells #[pv, .int .i64 root, .int .i64 had, .int .i64 why] 137
/-- Block B is a builder, over an arena. -/
def BI (w : World) (B : Nat) (pv : Value) (o : Option Nat) (root had : Int) (room : Nat) (zs : List Cel) (why : Int) : Prop := w.heap[B]? = some (bld pv root had why) ∧ ArV w pv o room zs
theorem BI.nv {w : World} {B : Nat} {pv : Value} {o : Option Nat} {root had : Int} {room : Nat} {zs : List Cel} {why : Int} (h : BI w B pv o root had room zs why) : ¬ VF pv o B := fun k => by
  obtain ⟨hB, h⟩ := h
  unfold bld at hB
  rcases h with ⟨rfl, rfl, _, _⟩ | ⟨b, rfl, h⟩
  · rcases k with k | k <;> cases k
  · obtain ⟨_, _, _, _, v, hb, hown, rfl⟩ := h
    rcases k with k | k
    · injection k with k; injection k with k; injection k with k
      subst k
      rw [hb] at hB
      simp only [Option.some.injEq, Obj.cells.injEq] at hB
      exact absurd hB.2.1 (by decide)
    · rcases hown.2 with ⟨rfl, _⟩ | ⟨g, cap, cur, rfl, _, hg, _⟩
      · cases k
      · simp only [Value.ownBlock, Option.some.injEq] at k
        subst k
        rw [hg] at hB
        simp only [Option.some.injEq, Obj.cells.injEq] at hB
        exact absurd hB.2.1 (by decide)
theorem BI.below {w w' : World} {B : Nat} {pv : Value} {o : Option Nat} {root had : Int} {room : Nat} {zs : List Cel} {why : Int} (h : BI w B pv o root had room zs why) (hb : Below w.heap.size w w') : BI w' B pv o root had room zs why :=
  ⟨(hb.block _ (heap_lt h.1)).trans h.1, h.2.below hb⟩
/-- A builder's blocks. -/
def BF (B : Nat) (pv : Value) (o : Option Nat) (g : Nat) : Prop := g = B ∨ VF pv o g
theorem Mv.bf {B : Nat} {pv : Value} {o o' : Option Nat} {w : World} (h : Mv o o' w) (g : Nat) (hg : g < w.heap.size) (k : BF B pv o' g) : BF B pv o g := by
  rcases k with k | k
  · exact .inl k
  · exact .inr (h.vf g hg k)
/-- What a builder's call leaves: a value, more cells, an error or none; all but the builder and its arena is as it was. -/
def BP (B : Nat) (pv : Value) (o : Option Nat) (root had : Int) (room : Nat) (zs' : List Cel) (why' : Int) (v : Value) (w : World) (e : Ending) (w' : World) : Prop :=
  e = .returned v ∧ ∃ o', BI w' B pv o' root had room zs' why' ∧ Mv o o' w ∧ Fr (BF B pv o) w w'
theorem bcells {w : World} {B : Nat} {pv : Value} {root had why : Int} (h : w.heap[B]? = some (bld pv root had why)) : B < w.heap.size ∧ (w.cell? ⟨B, 0, none⟩ = some pv ∧ w.cell? ⟨B, 1, none⟩ = some (.int .i64 root)) ∧ (w.cell? ⟨B, 2, none⟩ = some (.int .i64 had) ∧ w.cell? ⟨B, 3, none⟩ = some (.int .i64 why)) ∧ w.frozen? ⟨B, 3, none⟩ = false := by
  refine ⟨heap_lt h, ?_⟩
  unfold bld at h
  simp [World.cell?, World.frozen?, h]
/-- What stays within a statement: the world ahead of it; some new boxes. -/
def RI (W1 w : World) (bs : List (Nat × Obj)) : Prop := Below W1.heap.size W1 w ∧ (∀ p ∈ bs, w.heap[p.1]? = some p.2 ∧ W1.heap.size ≤ p.1) ∧ bs.Pairwise (fun p q => p.1 ≠ q.1)
theorem RI.start (W1 : World) : RI W1 W1.drew [] := ⟨(Below.refl _ _).drew, fun _ hp => (List.not_mem_nil hp).elim, List.Pairwise.nil⟩
theorem RI.call {W1 w w' : World} {bs : List (Nat × Obj)} (h : RI W1 w bs) (hb : Below w.heap.size w w') : RI W1 w' bs :=
  ⟨h.1.trans (hb.mono h.1.size), fun p hp => ⟨(hb.block _ (heap_lt (h.2.1 p hp).1)).trans (h.2.1 p hp).1, (h.2.1 p hp).2⟩, h.2.2⟩
theorem RI.alloc {W1 w : World} {bs : List (Nat × Obj)} (h : RI W1 w bs) (o : Obj) : RI W1 (w.alloc o) ((w.heap.size, o) :: bs) := by
  have h2 := h.call ((Below.refl _ _).alloc (Nat.le_refl _) o)
  refine ⟨h2.1, fun p hp => ?_, List.Pairwise.cons (fun p hp e => ?_) h2.2.2⟩
  · rcases List.mem_cons.1 hp with rfl | hp
    · exact ⟨heap_alloc_at _ _ _ rfl, h.1.size⟩
    · exact h2.2.1 p hp
  · have := heap_lt (h.2.1 p hp).1
    simp only at e
    omega
theorem RI.store {W1 w w' : World} {g : Nat} {o o' : Obj} {bs : List (Nat × Obj)} (h : RI W1 w ((g, o) :: bs)) (hs : Stored w g o' w') : RI W1 w' ((g, o') :: bs) := by
  have hg := h.2.1 (g, o) (List.mem_cons_self ..)
  obtain ⟨hp1, hp2⟩ := List.pairwise_cons.1 h.2.2
  refine ⟨hs.below h.1 hg.2, fun p hp => ?_, List.pairwise_cons.2 ⟨hp1, hp2⟩⟩
  rcases List.mem_cons.1 hp with rfl | hp
  · exact ⟨hs.2.2.2.2.1, hg.2⟩
  · have := h.2.1 p (List.mem_cons_of_mem _ hp)
    exact ⟨(hs.2.2.2.2.2 p.1 (fun e => hp1 p hp e.symm)).trans this.1, this.2⟩
theorem RI.swap {W1 w : World} {p q : Nat × Obj} {bs : List (Nat × Obj)} (h : RI W1 w (p :: q :: bs)) : RI W1 w (q :: p :: bs) := by
  obtain ⟨hp1, hp2⟩ := List.pairwise_cons.1 h.2.2
  obtain ⟨hq1, hq2⟩ := List.pairwise_cons.1 hp2
  refine ⟨h.1, fun r hr => h.2.1 r ?_, List.pairwise_cons.2 ⟨fun r hr => ?_, List.pairwise_cons.2 ⟨fun r hr => hp1 r (List.mem_cons_of_mem _ hr), hq2⟩⟩⟩
  · rcases List.mem_cons.1 hr with rfl | hr
    · simp
    · rcases List.mem_cons.1 hr with rfl | hr
      · simp
      · simp [hr]
  · rcases List.mem_cons.1 hr with rfl | hr
    · exact fun e => hp1 q (List.mem_cons_self ..) e.symm
    · exact hq1 r hr
theorem RI.at_ {W1 w : World} {bs : List (Nat × Obj)} (h : RI W1 w bs) {g : Nat} {o : Obj} (hp : (g, o) ∈ bs) : w.heap[g]? = some o ∧ W1.heap.size ≤ g := h.2.1 (g, o) hp
/-- A box for a cell is made, in a drawn region. -/
theorem wp_alloc_cel {o : Oper} {a : Act} {w : World} {K : Act → World → Prop} {Q : Exit → Act → World → Prop} (ho : o.op = .alloc 110)
    (h : ∀ g w', g = w.heap.size → w' = w.alloc (boxC Cel.zero) → K (a.put o.dst (.pointer (some ⟨g, 0, none⟩))) w') : o.wp Try.prog a w K Q := by
  obtain ⟨dst, op, type, pos, after, guard⟩ := o
  simp only at ho
  subst ho
  go_simp
  exact h _ _ rfl rfl
/-- The cell with its size and height, by the two that it points to. -/
def sized (zs : List Cel) (c : Cel) : Cel := ⟨c.l, c.r, c.k, c.v, wrap64 (wrap64 ((celAt zs c.l).s + 1) + (celAt zs c.r).s), wrap64 (1 + if (celAt zs c.l).h < (celAt zs c.r).h then (celAt zs c.r).h else (celAt zs c.l).h)⟩
theorem wrap_range (x : Int) : -9223372036854775808 ≤ wrap64 x ∧ wrap64 x ≤ 9223372036854775807 := by
  unfold wrap64; omega
theorem sized_ok {zs : List Cel} {c : Cel} (h : c.ok) : (sized zs c).ok := ⟨h.1, h.2.1, h.2.2.1, h.2.2.2.1, wrap_range _, wrap_range _⟩
/-- What a builder's put makes: the cells, the error, the number. -/
def putM (room : Nat) (zs : List Cel) (why : Int) (c : Cel) : List Cel × Int × Int := if zs.length < room then (zs ++ [sized zs c], why, (zs.length : Int) + 1) else (zs, 2, 0)
theorem boxC_size {w : World} {g : Nat} {c : Cel} (h : w.heap[g]? = some (boxC c)) (s y : Int) : Stored w g (boxC ⟨c.l, c.r, c.k, c.v, s, y⟩) ((w.setCell ⟨g, 4, none⟩ (.int .i64 s)).setCell ⟨g, 5, none⟩ (.int .i64 y)) := by
  refine ⟨rfl, rfl, rfl, by simp [World.setCell], ?_, fun k hk => ?_⟩
  · unfold boxC at h ⊢
    simp [World.setCell, Array.getElem?_modify, h]
  · rw [Below.heap_setCell _ _ _ _ hk, Below.heap_setCell _ _ _ _ hk]
theorem BI.setwhy {w : World} {B : Nat} {pv : Value} {o : Option Nat} {root had : Int} {room : Nat} {zs : List Cel} {why : Int} (h : BI w B pv o root had room zs why) (y : Int) : BI (w.setCell ⟨B, 3, none⟩ (.int .i64 y)) B pv o root had room zs y ∧ Fr (fun g => g = B) w (w.setCell ⟨B, 3, none⟩ (.int .i64 y)) := by
  have hf : Fr (fun g => g = B) w (w.setCell ⟨B, 3, none⟩ (.int .i64 y)) := Fr.setCell (F := fun g => g = B) (Fr.refl _ _) (b := B) rfl 3 _
  have hn := h.nv
  refine ⟨⟨?_, h.2.fr hf (fun g hv e => hn (e ▸ hv))⟩, hf⟩
  have := h.1
  unfold bld at this ⊢
  simp [World.setCell, Array.getElem?_modify, this]
end Go.Proofs.Ytpmimngngehmlaa.F
