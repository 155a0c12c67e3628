/-
  What stays within a statement that draws its order: the world ahead of it, some new boxes. Not a statement of the seat.
-/
import Derived.Test.YthmhgngfealccaaStored
namespace Go.Proofs.Ythmhgngfealccaa.Ri
open Go.ChangeShapes Go.WideShapes Go.ChangeAt Go.RowKit Base F
def RI (W1 w : World) (bs : List (Nat × Obj)) : Prop := Below W1.heap.size W1 w ∧ (∀ p ∈ bs, w.heap[p.1]? = some p.2 ∧ W1.heap.size ≤ p.1) ∧ bs.Pairwise (fun p q => p.1 ≠ q.1)
theorem RI.start (W1 : World) : RI W1 W1.drew [] := ⟨(Below.refl _ _).drew, fun _ hp => (List.not_mem_nil hp).elim, List.Pairwise.nil⟩
theorem RI.call {W1 w w' : World} {bs : List (Nat × Obj)} (h : RI W1 w bs) (hb : Below w.heap.size w w') : RI W1 w' bs :=
  ⟨h.1.trans (hb.mono h.1.size), fun p hp => ⟨(hb.block _ (heap_lt (h.2.1 p hp).1)).trans (h.2.1 p hp).1, (h.2.1 p hp).2⟩, h.2.2⟩
theorem RI.alloc {W1 w : World} {bs : List (Nat × Obj)} (h : RI W1 w bs) (o : Obj) : RI W1 (w.alloc o) ((w.heap.size, o) :: bs) := by
  have h2 := h.call ((Below.refl _ _).alloc (Nat.le_refl _) o)
  refine ⟨h2.1, fun p hp => ?_, List.Pairwise.cons (fun p hp e => ?_) h2.2.2⟩
  · rcases List.mem_cons.1 hp with rfl | hp
    · exact ⟨heap_alloc_at _ _ _ rfl, h.1.size⟩
    · exact h2.2.1 p hp
  · have := heap_lt (h.2.1 p hp).1
    simp only at e
    omega
theorem RI.store {W1 w w' : World} {g : Nat} {o o' : Obj} {bs : List (Nat × Obj)} (h : RI W1 w ((g, o) :: bs)) (hs : Stored w g o' w') : RI W1 w' ((g, o') :: bs) := by
  have hg := h.2.1 (g, o) (List.mem_cons_self ..)
  obtain ⟨hp1, hp2⟩ := List.pairwise_cons.1 h.2.2
  refine ⟨hs.below h.1 hg.2, fun p hp => ?_, List.pairwise_cons.2 ⟨hp1, hp2⟩⟩
  rcases List.mem_cons.1 hp with rfl | hp
  · exact ⟨hs.2.2.2.2.1, hg.2⟩
  · have := h.2.1 p (List.mem_cons_of_mem _ hp)
    exact ⟨(hs.2.2.2.2.2 p.1 (fun e => hp1 p hp e.symm)).trans this.1, this.2⟩
theorem RI.swap {W1 w : World} {p q : Nat × Obj} {bs : List (Nat × Obj)} (h : RI W1 w (p :: q :: bs)) : RI W1 w (q :: p :: bs) := by
  obtain ⟨hp1, hp2⟩ := List.pairwise_cons.1 h.2.2
  obtain ⟨hq1, hq2⟩ := List.pairwise_cons.1 hp2
  refine ⟨h.1, fun r hr => h.2.1 r ?_, List.pairwise_cons.2 ⟨fun r hr => ?_, List.pairwise_cons.2 ⟨fun r hr => hp1 r (List.mem_cons_of_mem _ hr), hq2⟩⟩⟩
  · rcases List.mem_cons.1 hr with rfl | hr
    · simp
    · rcases List.mem_cons.1 hr with rfl | hr
      · simp
      · simp [hr]
  · rcases List.mem_cons.1 hr with rfl | hr
    · exact fun e => hp1 q (List.mem_cons_self ..) e.symm
    · exact hq1 r hr
theorem RI.at_ {W1 w : World} {bs : List (Nat × Obj)} (h : RI W1 w bs) {g : Nat} {o : Obj} (hp : (g, o) ∈ bs) : w.heap[g]? = some o ∧ W1.heap.size ≤ g := h.2.1 (g, o) hp
end Go.Proofs.Ythmhgngfealccaa.Ri
