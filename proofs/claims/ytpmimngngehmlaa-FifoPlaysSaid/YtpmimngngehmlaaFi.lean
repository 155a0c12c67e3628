/-
  A queue and a stack of the call's own, and boxes beside them: what stays on the way. Not a statement of the seat.
-/
import Derived.Test.YtpmimngngehmlaaFs4
namespace Go.Proofs.Ytpmimngngehmlaa.F
open Go.ChangeShapes Go.WideShapes Go.ChangeAt Go.RowKit Base
/-- The blocks of a queue and of a stack. -/
def FF (qb qg sb : Nat) (so : Option Nat) (g : Nat) : Prop := (g = qb ∨ g = qg) ∨ ArF sb so g
def FI (w0 w : World) (qb qg sb : Nat) (so : Option Nat) (rq rs : Nat) (xq xs : List Int) (bs : List (Nat × Obj)) : Prop :=
  QAt w qb qg rq xq ∧ SAt w sb so rs xs ∧ Below w0.heap.size w0 w ∧ (∀ g, FF qb qg sb so g → w0.heap.size ≤ g) ∧ (qb ≠ sb ∧ qg ≠ sb ∧ so ≠ some qb ∧ so ≠ some qg) ∧ ∀ p ∈ bs, w.heap[p.1]? = some p.2 ∧ ¬ FF qb qg sb so p.1
section
variable {w0 w w' : World} {qb qg sb : Nat} {so : Option Nat} {rq rs : Nat} {xq xs : List Int} {bs : List (Nat × Obj)}
theorem FI.below (h : FI w0 w qb qg sb so rq rs xq xs bs) (hb : Below w.heap.size w w') : FI w0 w' qb qg sb so rq rs xq xs bs := by
  obtain ⟨h1, h2, h3, h4, h5, h6⟩ := h
  exact ⟨h1.below hb, h2.below hb, h3.trans (hb.mono h3.size), h4, h5, fun p hp => ⟨(hb.block _ (heap_lt (h6 p hp).1)).trans (h6 p hp).1, (h6 p hp).2⟩⟩
theorem FI.q {xq' : List Int} {v : Value} {e : Ending} (h : FI w0 w qb qg sb so rq rs xq xs bs) (hp : QPost qb qg rq xq' v w e w') : e = .returned v ∧ Hid (FI w0 w' qb qg sb so rq rs xq' xs bs) := by
  obtain ⟨h1, h2, h3, h4, h5, h6⟩ := h
  obtain ⟨he, k1, k2⟩ := hp
  refine ⟨he, Lib.hid ⟨k1, h2.fr k2 (fun k => ?_) (fun g hg k => ?_), ?_, h4, h5, fun p hp => ⟨(k2.block (heap_lt (h6 p hp).1) (fun k => (h6 p hp).2 (.inl k))).trans (h6 p hp).1, (h6 p hp).2⟩⟩⟩
  · rcases k with k | k
    · exact h5.1 k.symm
    · exact h5.2.1 k.symm
  · rcases k with k | k
    · exact h5.2.2.1 (by rw [hg, k])
    · exact h5.2.2.2 (by rw [hg, k])
  · have := (Fr.of_below (F := fun k => k = qb ∨ k = qg) h3).trans k2 (fun g _ k => k)
    exact this.below (fun g k => h4 g (.inl k)) (Nat.le_refl _)
theorem FI.s {xs' : List Int} {v : Value} {e : Ending} (h : FI w0 w qb qg sb so rq rs xq xs bs) (hp : SPost sb so rs xs' v w e w') : e = .returned v ∧ ∃ so', Hid (FI w0 w' qb qg sb so' rq rs xq xs' bs) := by
  obtain ⟨h1, h2, h3, h4, h5, h6⟩ := h
  obtain ⟨he, so', k1, k2, k3⟩ := hp
  have hlq := h1.lt
  have hnew : ∀ g, so' = some g → so = some g ∨ w.heap.size ≤ g := fun g hg => by
    rcases k2 with rfl | ⟨g', e', hg'⟩
    · exact .inl hg
    · rw [hg] at e'; injection e' with e'; exact .inr (e' ▸ hg')
  refine ⟨he, so', Lib.hid ⟨h1.fr k3 (fun k => ?_) (fun k => ?_), k1, ?_, fun g hg => ?_, ⟨h5.1, h5.2.1, fun e => ?_, fun e => ?_⟩, fun p hp => ?_⟩⟩
  · rcases k with k | k
    · exact h5.1 k
    · exact h5.2.2.1 k
  · rcases k with k | k
    · exact h5.2.1 k
    · exact h5.2.2.2 k
  · have := (Fr.of_below (F := ArF sb so) h3).trans k3 (fun g _ k => k)
    exact this.below (fun g k => h4 g (.inr k)) (Nat.le_refl _)
  · rcases hg with hg | hg | hg
    · exact h4 g (.inl hg)
    · exact h4 g (.inr (.inl hg))
    · rcases hnew g hg with k | k
      · exact h4 g (.inr (.inr k))
      · exact Nat.le_trans h3.size k
  · rcases hnew _ e with k | k
    · exact h5.2.2.1 k
    · omega
  · rcases hnew _ e with k | k
    · exact h5.2.2.2 k
    · omega
  · have hpl := heap_lt (h6 p hp).1
    refine ⟨(k3.block hpl (fun k => (h6 p hp).2 (.inr k))).trans (h6 p hp).1, fun k => ?_⟩
    rcases k with k | k | k
    · exact (h6 p hp).2 (.inl k)
    · exact (h6 p hp).2 (.inr (.inl k))
    · rcases hnew _ k with k | k
      · exact (h6 p hp).2 (.inr (.inr k))
      · omega
theorem FI.fflt (h : FI w0 w qb qg sb so rq rs xq xs bs) {g : Nat} (k : FF qb qg sb so g) : g < w.heap.size := by
  rcases k with (k | k) | k | k
  · rw [k]; exact h.1.lt.1
  · rw [k]; exact h.1.lt.2
  · rw [k]; exact h.2.1.lt.1
  · exact (h.2.1.lt.2 g k).1
theorem FI.add (h : FI w0 w qb qg sb so rq rs xq xs bs) (ob : Obj) : FI w0 (w.alloc ob) qb qg sb so rq rs xq xs ((w.heap.size, ob) :: bs) := by
  have h2 := h.below ((Below.refl _ _).alloc (Nat.le_refl _) ob)
  refine ⟨h2.1, h2.2.1, h2.2.2.1, h2.2.2.2.1, h2.2.2.2.2.1, fun p hp => ?_⟩
  rcases List.mem_cons.1 hp with rfl | hp
  · exact ⟨heap_alloc_at _ _ _ rfl, fun k => Nat.lt_irrefl _ (h.fflt k)⟩
  · exact h2.2.2.2.2.2 p hp
theorem FI.keepNew {wa : World} {g : Nat} {ob : Obj} (h : FI w0 wa qb qg sb so rq rs xq xs bs) (hb : Below wa.heap.size wa w) (hg : w.heap[g]? = some ob) (h0 : wa.heap.size ≤ g) : FI w0 w qb qg sb so rq rs xq xs ((g, ob) :: bs) := by
  have h2 := h.below hb
  refine ⟨h2.1, h2.2.1, h2.2.2.1, h2.2.2.2.1, h2.2.2.2.2.1, fun p hp => ?_⟩
  rcases List.mem_cons.1 hp with rfl | hp
  · exact ⟨hg, fun k => by have := h.fflt k; omega⟩
  · exact h2.2.2.2.2.2 p hp
theorem FI.drop {bs' : List (Nat × Obj)} (h : FI w0 w qb qg sb so rq rs xq xs bs) (hb : ∀ p ∈ bs', p ∈ bs) : FI w0 w qb qg sb so rq rs xq xs bs' := ⟨h.1, h.2.1, h.2.2.1, h.2.2.2.1, h.2.2.2.2.1, fun p hp => h.2.2.2.2.2 p (hb p hp)⟩
theorem FI.new {w1 w2 : World} {e1 e2 : Ending} {n m : Int} (h1 : NewQ n w e1 w1) (h2 : NewS m w1 e2 w2) : ∃ qb qg sb, e1 = .returned (.pointer (some ⟨qb, 0, none⟩)) ∧ e2 = .returned (.pointer (some ⟨sb, 0, none⟩)) ∧ Hid (FI w w2 qb qg sb none (roomOf n) (roomOf m) [] [] []) := by
  obtain ⟨b, g, he, a1, a2, a3, a4⟩ := h1
  obtain ⟨he2, b1, b2⟩ := h2
  have hl := a1.lt
  refine ⟨b, g, w1.heap.size, he, he2, Lib.hid ⟨a1.below b2, b1, a4.trans (b2.mono a4.size), fun k hk => ?_, ⟨by omega, by omega, by simp, by simp⟩, (fun p hp => by cases hp)⟩⟩
  rcases hk with (k | k) | k | k
  · omega
  · omega
  · have := a4.size; omega
  · cases k
end
end Go.Proofs.Ytpmimngngehmlaa.F
