/-
  Contracts of small functions, several texts laid into one. Not a statement of the seat.
-/
import Derived.Test.YtiiipnfkkdfgbaaHead15
import Derived.Test.YtiiipnfkkdfgbaaStored
namespace Go.Proofs.Ytiiipnfkkdfgbaa.Tx
open Go.ChangeShapes Go.WideShapes Go.ChangeAt Go.RowKit Base F
/-- A transaction's box. -/
def boxT (id : Int) (d : Bool) (s : Value) : Obj := .cells #[.int .i64 id, .bool d, s] 36
theorem cellsT {w : World} {g : Nat} {id : Int} {d : Bool} {s : Value} (h : w.heap[g]? = some (boxT id d s)) : g < w.heap.size ∧ (w.cell? ⟨g, 0, none⟩ = some (.int .i64 id) ∧ w.cell? ⟨g, 1, none⟩ = some (.bool d) ∧ w.cell? ⟨g, 2, none⟩ = some s) ∧
    w.frozen? ⟨g, 0, none⟩ = false ∧ w.frozen? ⟨g, 1, none⟩ = false ∧ w.frozen? ⟨g, 2, none⟩ = false := by
  refine ⟨heap_lt h, ?_⟩
  unfold boxT at h
  simp [World.cell?, World.frozen?, h]
set_option maxRecDepth 100000 in
theorem wpList_store_tx {ops : Array Oper} {rest : List Oper} {o : Oper} {a : Act} {w : World} {Q : Exit → Act → World → Prop} (hgd : o.guard = none) (x y : Operand) (ho : o.op = .store 36 x y)
    (g : Nat) (id : Int) (d : Bool) (p : Option Addr) (n c : Nat) (c0 : Array Value) (hx : a.eval x = .pointer (some ⟨g, 0, none⟩)) (hy : a.eval y = .agg #[.int .i64 id, .bool d, .slice p n c]) (hg : w.heap[g]? = some (.cells c0 36)) (h3 : c0.size = 3)
    (h : ∀ w', Stored w g (boxT id d (.slice p n c)) w' → wpList Try.prog ops Q rest (a.put o.dst undef) w') : wpList Try.prog ops Q (o :: rest) a w :=
  wpList_store_row hgd _ x y ho g _ hx hy 36 _ hg (by kernel_rfl) (by rw [h3]; rfl) (by simp [Value.oneCell']) (h _ (stored_setRow _ _ _ _ _ hg))
set_option maxRecDepth 100000 in
/-- A call's result, a transaction in a box. -/
theorem results_tx {fn : Func} {p : Tmp} (h : fn.results = #[.cell p 36]) (tmps : Array Value) (w : World) (g : Nat) (id : Int) (d : Bool) (s : Value)
    (hp : tmps.getD p undef = .pointer (some ⟨g, 0, none⟩)) (hg : w.heap[g]? = some (boxT id d s)) : (results fn tmps).run Try.prog w = .ok (.agg #[.int .i64 id, .bool d, s]) w :=
  results_cell_row h tmps w g _ _ _ _ hp hg Try.underlying36 rfl (by kernel_rfl)
theorem storedT_ops {w : World} {g : Nat} {id : Int} {d : Bool} {s : Value} (h : w.heap[g]? = some (boxT id d s)) (x : Value) : Stored w g (boxT id d x) (w.setCell ⟨g, 2, none⟩ x) := by
  unfold boxT at h
  refine ⟨rfl, rfl, rfl, by simp [World.setCell], ?_, fun j hj => Below.heap_setCell _ _ _ _ hj⟩
  simp [World.setCell, Array.getElem?_modify, h, boxT]
theorem stored_grown {w w' : World} {g : Nat} {o : Obj} (h : Stored w g o w') : w.grownBy w' (some g) := ⟨h.1, h.2.1, h.2.2.1, by rw [h.2.2.2.1]; exact Nat.le_refl _, fun k _ hk => h.2.2.2.2.2 k (fun e => hk (by rw [e]))⟩
end Go.Proofs.Ytiiipnfkkdfgbaa.Tx
namespace Go.Proofs.Ytiiipnfkkdfgbaa.Ri
open Go.ChangeShapes Go.WideShapes Go.ChangeAt Go.RowKit Base F
def RI (W1 w : World) (bs : List (Nat × Obj)) : Prop := Below W1.heap.size W1 w ∧ (∀ p ∈ bs, w.heap[p.1]? = some p.2 ∧ W1.heap.size ≤ p.1) ∧ bs.Pairwise (fun p q => p.1 ≠ q.1)
theorem RI.start (W1 : World) : RI W1 W1.drew [] := ⟨(Below.refl _ _).drew, fun _ hp => (List.not_mem_nil hp).elim, List.Pairwise.nil⟩
theorem RI.call {W1 w w' : World} {bs : List (Nat × Obj)} (h : RI W1 w bs) (hb : Below w.heap.size w w') : RI W1 w' bs :=
  ⟨h.1.trans (hb.mono h.1.size), fun p hp => ⟨(hb.block _ (heap_lt (h.2.1 p hp).1)).trans (h.2.1 p hp).1, (h.2.1 p hp).2⟩, h.2.2⟩
theorem RI.alloc {W1 w : World} {bs : List (Nat × Obj)} (h : RI W1 w bs) (o : Obj) : RI W1 (w.alloc o) ((w.heap.size, o) :: bs) := by
  have h2 := h.call ((Below.refl _ _).alloc (Nat.le_refl _) o)
  refine ⟨h2.1, fun p hp => ?_, List.Pairwise.cons (fun p hp e => ?_) h2.2.2⟩
  · rcases List.mem_cons.1 hp with rfl | hp
    · exact ⟨heap_alloc_at _ _ _ rfl, h.1.size⟩
    · exact h2.2.1 p hp
  · have := heap_lt (h.2.1 p hp).1
    simp only at e
    omega
theorem RI.store {W1 w w' : World} {g : Nat} {o o' : Obj} {bs : List (Nat × Obj)} (h : RI W1 w ((g, o) :: bs)) (hs : Stored w g o' w') : RI W1 w' ((g, o') :: bs) := by
  have hg := h.2.1 (g, o) (List.mem_cons_self ..)
  obtain ⟨hp1, hp2⟩ := List.pairwise_cons.1 h.2.2
  refine ⟨hs.below h.1 hg.2, fun p hp => ?_, List.pairwise_cons.2 ⟨hp1, hp2⟩⟩
  rcases List.mem_cons.1 hp with rfl | hp
  · exact ⟨hs.2.2.2.2.1, hg.2⟩
  · have := h.2.1 p (List.mem_cons_of_mem _ hp)
    exact ⟨(hs.2.2.2.2.2 p.1 (fun e => hp1 p hp e.symm)).trans this.1, this.2⟩
theorem RI.swap {W1 w : World} {p q : Nat × Obj} {bs : List (Nat × Obj)} (h : RI W1 w (p :: q :: bs)) : RI W1 w (q :: p :: bs) := by
  obtain ⟨hp1, hp2⟩ := List.pairwise_cons.1 h.2.2
  obtain ⟨hq1, hq2⟩ := List.pairwise_cons.1 hp2
  refine ⟨h.1, fun r hr => h.2.1 r ?_, List.pairwise_cons.2 ⟨fun r hr => ?_, List.pairwise_cons.2 ⟨fun r hr => hp1 r (List.mem_cons_of_mem _ hr), hq2⟩⟩⟩
  · rcases List.mem_cons.1 hr with rfl | hr
    · simp
    · rcases List.mem_cons.1 hr with rfl | hr
      · simp
      · simp [hr]
  · rcases List.mem_cons.1 hr with rfl | hr
    · exact fun e => hp1 q (List.mem_cons_self ..) e.symm
    · exact hq1 r hr
theorem RI.at_ {W1 w : World} {bs : List (Nat × Obj)} (h : RI W1 w bs) {g : Nat} {o : Obj} (hp : (g, o) ∈ bs) : w.heap[g]? = some o ∧ W1.heap.size ≤ g := h.2.1 (g, o) hp
end Go.Proofs.Ytiiipnfkkdfgbaa.Ri
