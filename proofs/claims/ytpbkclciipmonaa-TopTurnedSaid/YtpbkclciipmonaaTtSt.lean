/-
  A queue, a stack, and an arena of the call's own, and boxes beside them: what stays on the way. Not a statement of the seat.
-/
import Derived.Test.YtpbkclciipmonaaHead4
import Derived.Test.YtpbkclciipmonaaHead5
namespace Go.Proofs.Ytpbkclciipmonaa.F
open Go.ChangeShapes Go.WideShapes Go.ChangeAt Go.RowKit Base
def TT (w0 W : World) (pa : Option Addr) (o : Option Nat) (zs : List Cel) (qb qg sb : Nat) (so : Option Nat) (n : Nat) (xq xs : List Int) (bs : List (Nat × Obj)) : Prop :=
  QAt W qb qg n xq ∧ SAt W sb so n xs ∧ ArV W (.pointer pa) o 65536 zs ∧ Below w0.heap.size w0 W ∧ (∀ g, VF (.pointer pa) o g → w0.heap.size ≤ g ∧ ¬ FF qb qg sb so g) ∧ (∀ g, FF qb qg sb so g → w0.heap.size ≤ g) ∧ (qb ≠ sb ∧ qg ≠ sb ∧ so ≠ some qb ∧ so ≠ some qg) ∧ ∀ p ∈ bs, W.heap[p.1]? = some p.2 ∧ w0.heap.size ≤ p.1 ∧ ¬ FF qb qg sb so p.1 ∧ ¬ VF (.pointer pa) o p.1
section
variable {w0 W W' : World} {pa : Option Addr} {o : Option Nat} {zs : List Cel} {qb qg sb : Nat} {so : Option Nat} {n : Nat} {xq xs : List Int} {bs : List (Nat × Obj)}
theorem TT.below (h : TT w0 W pa o zs qb qg sb so n xq xs bs) (hb : Below W.heap.size W W') : TT w0 W' pa o zs qb qg sb so n xq xs bs := by
  obtain ⟨h1, h2, h3, h4, h5, h6, h7, h8⟩ := h
  exact ⟨h1.below hb, h2.below hb, h3.below hb, h4.trans (hb.mono h4.size), h5, h6, h7, fun p hp => ⟨(hb.block _ (heap_lt (h8 p hp).1)).trans (h8 p hp).1, (h8 p hp).2⟩⟩
theorem TT.fflt (h : TT w0 W pa o zs qb qg sb so n xq xs bs) {g : Nat} (k : FF qb qg sb so g) : g < W.heap.size := by
  rcases k with (k | k) | k | k
  · rw [k]; exact h.1.lt.1
  · rw [k]; exact h.1.lt.2
  · rw [k]; exact h.2.1.lt.1
  · exact (h.2.1.lt.2 g k).1
theorem TT.add (h : TT w0 W pa o zs qb qg sb so n xq xs bs) (ob : Obj) : TT w0 (W.alloc ob) pa o zs qb qg sb so n xq xs ((W.heap.size, ob) :: bs) := by
  have h2 := h.below ((Below.refl _ _).alloc (Nat.le_refl _) ob)
  refine ⟨h2.1, h2.2.1, h2.2.2.1, h2.2.2.2.1, h2.2.2.2.2.1, h2.2.2.2.2.2.1, h2.2.2.2.2.2.2.1, fun p hp => ?_⟩
  rcases List.mem_cons.1 hp with rfl | hp
  · exact ⟨heap_alloc_at _ _ _ rfl, h.2.2.2.1.size, fun k => Nat.lt_irrefl _ (h.fflt k), fun k => Nat.lt_irrefl _ (h.2.2.1.lt _ k)⟩
  · exact h2.2.2.2.2.2.2.2 p hp
theorem TT.q {xq' : List Int} {v : Value} {e : Ending} (h : TT w0 W pa o zs qb qg sb so n xq xs bs) (hp : QPost qb qg n xq' v W e W') : e = .returned v ∧ Hid (TT w0 W' pa o zs qb qg sb so n xq' xs bs) := by
  obtain ⟨h1, h2, h3, h4, h5, h6, h7, h8⟩ := h
  obtain ⟨he, k1, k2⟩ := hp
  refine ⟨he, Lib.hid ⟨k1, h2.fr k2 (fun k => ?_) (fun g hg k => ?_), h3.fr k2 (fun g hv k => (h5 g hv).2 (.inl k)), ?_, h5, h6, h7, fun p hp => ⟨(k2.block (heap_lt (h8 p hp).1) (fun k => (h8 p hp).2.2.1 (.inl k))).trans (h8 p hp).1, (h8 p hp).2⟩⟩⟩
  · rcases k with k | k
    · exact h7.1 k.symm
    · exact h7.2.1 k.symm
  · rcases k with k | k
    · exact h7.2.2.1 (by rw [hg, k])
    · exact h7.2.2.2 (by rw [hg, k])
  · exact ((Fr.of_below (F := fun k => k = qb ∨ k = qg) h4).trans k2 (fun g _ k => k)).below (fun g k => h6 g (.inl k)) (Nat.le_refl _)
theorem TT.s {xs' : List Int} {v : Value} {e : Ending} (h : TT w0 W pa o zs qb qg sb so n xq xs bs) (hp : SPost sb so n xs' v W e W') : e = .returned v ∧ ∃ so', Hid (TT w0 W' pa o zs qb qg sb so' n xq xs' bs) := by
  have hlt := fun g (k : FF qb qg sb so g) => h.fflt k
  obtain ⟨h1, h2, h3, h4, h5, h6, h7, h8⟩ := h
  obtain ⟨he, so', k1, k2, k3⟩ := hp
  have hlq := h1.lt
  have hnew : ∀ g, so' = some g → so = some g ∨ W.heap.size ≤ g := fun g hg => by
    rcases k2 with rfl | ⟨g', e', hg'⟩
    · exact .inl hg
    · rw [hg] at e'; injection e' with e'; exact .inr (e' ▸ hg')
  have hff : ∀ g, g < W.heap.size → FF qb qg sb so' g → FF qb qg sb so g := fun g hg k => by
    rcases k with k | k | k
    · exact .inl k
    · exact .inr (.inl k)
    · rcases hnew g k with k | k
      · exact .inr (.inr k)
      · omega
  refine ⟨he, so', Lib.hid ⟨h1.fr k3 (fun k => ?_) (fun k => ?_), k1, h3.fr k3 (fun g hv k => (h5 g hv).2 (.inr k)), ?_, fun g hv => ⟨(h5 g hv).1, fun k => (h5 g hv).2 (hff g (h3.lt g hv) k)⟩, fun g k => ?_, ⟨h7.1, h7.2.1, fun e => ?_, fun e => ?_⟩, fun p hp => ?_⟩⟩
  · rcases k with k | k
    · exact h7.1 k
    · exact h7.2.2.1 k
  · rcases k with k | k
    · exact h7.2.1 k
    · exact h7.2.2.2 k
  · exact ((Fr.of_below (F := ArF sb so) h4).trans k3 (fun g _ k => k)).below (fun g k => h6 g (.inr k)) (Nat.le_refl _)
  · rcases Nat.lt_or_ge g W.heap.size with hg | hg
    · exact h6 g (hff g hg k)
    · exact Nat.le_trans h4.size hg
  · rcases hnew _ e with k | k
    · exact h7.2.2.1 k
    · omega
  · rcases hnew _ e with k | k
    · exact h7.2.2.2 k
    · omega
  · have hpl := heap_lt (h8 p hp).1
    exact ⟨(k3.block hpl (fun k => (h8 p hp).2.2.1 (.inr k))).trans (h8 p hp).1, (h8 p hp).2.1, fun k => (h8 p hp).2.2.1 (hff _ hpl k), (h8 p hp).2.2.2⟩
theorem TT.ar {zs' : List Cel} {o' : Option Nat} (h : TT w0 W pa o zs qb qg sb so n xq xs bs) (hA : ArV W' (.pointer pa) o' 65536 zs') (hm : Mv o o' W) (hf : Fr (VF (.pointer pa) o) W W') : TT w0 W' pa o' zs' qb qg sb so n xq xs bs := by
  have hlt := fun g (k : FF qb qg sb so g) => h.fflt k
  obtain ⟨h1, h2, h3, h4, h5, h6, h7, h8⟩ := h
  refine ⟨h1.fr hf (fun k => (h5 _ k).2 (.inl (.inl rfl))) (fun k => (h5 _ k).2 (.inl (.inr rfl))), h2.fr hf (fun k => (h5 _ k).2 (.inr (.inl rfl))) (fun g hg k => (h5 _ k).2 (.inr (.inr hg))), hA, ((Fr.of_below (F := VF (.pointer pa) o) h4).trans hf (fun g _ k => k)).below (fun g k => (h5 g k).1) (Nat.le_refl _), fun g hv => ?_, h6, h7, fun p hp => ?_⟩
  · rcases Nat.lt_or_ge g W.heap.size with hg | hg
    · exact h5 g (hm.vf g hg hv)
    · exact ⟨Nat.le_trans h4.size hg, fun k => by have := hlt g k; omega⟩
  · have hpl := heap_lt (h8 p hp).1
    exact ⟨(hf.block hpl (h8 p hp).2.2.2).trans (h8 p hp).1, (h8 p hp).2.1, (h8 p hp).2.2.1, fun k => (h8 p hp).2.2.2 (hm.vf _ hpl k)⟩
theorem TT.store {g : Nat} {ob ob' : Obj} (h : TT w0 W pa o zs qb qg sb so n xq xs bs) (hg : (g, ob) ∈ bs) (hs : Stored W g ob' W') : TT w0 W' pa o zs qb qg sb so n xq xs [(g, ob')] := by
  obtain ⟨h1, h2, h3, h4, h5, h6, h7, h8⟩ := h
  obtain ⟨e1, e2, e3, e4⟩ := h8 _ hg
  have hf : Fr (fun k => k = g) W W' := ⟨hs.1, hs.2.1, hs.2.2.1, by rw [hs.2.2.2.1]; exact Nat.le_refl _, fun k _ hn => hs.2.2.2.2.2 k hn⟩
  refine ⟨h1.fr hf (fun k => e3 (k ▸ .inl (.inl rfl))) (fun k => e3 (k ▸ .inl (.inr rfl))), h2.fr hf (fun k => e3 (k ▸ .inr (.inl rfl))) (fun q hq k => e3 (k ▸ .inr (.inr hq))), h3.fr hf (fun q hv k => e4 (k ▸ hv)), hs.below h4 e2, h5, h6, h7, fun p hp => ?_⟩
  rw [List.mem_singleton] at hp
  subst hp
  exact ⟨hs.2.2.2.2.1, e2, e3, e4⟩
end
end Go.Proofs.Ytpbkclciipmonaa.F
