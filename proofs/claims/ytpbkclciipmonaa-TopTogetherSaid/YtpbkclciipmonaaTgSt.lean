/-
  An arena, boxes, and a list of ints that grows: what stays on the way. Not a statement of the seat.
-/
import Derived.Test.YtpbkclciipmonaaPsMov
namespace Go.Proofs.Ytpbkclciipmonaa.F
open Go.ChangeShapes Go.WideShapes Go.ChangeAt Go.RowKit Base
def GG (w0 W : World) (pa : Option Addr) (o : Option Nat) (room : Nat) (zs : List Cel) (bs : List (Nat × Obj)) (vl : Value) (xs : List Int) : Prop :=
  PS w0 W (.pointer pa) o room zs (.slice none 0 0) [] bs ∧ Lst.OwnI w0.heap.size W vl xs ∧ ∀ g, vl.ownBlock = some g → ¬ VF (.pointer pa) o g ∧ ∀ q ∈ bs, q.1 ≠ g
theorem OwnI.same {B : Nat} {w w' : World} {v : Value} {zs : List Int} (h : Lst.OwnI B w v zs) (hb : ∀ g, v.ownBlock = some g → w'.heap[g]? = w.heap[g]?) : Lst.OwnI B w' v zs := by
  obtain ⟨h1, h2⟩ := h
  refine ⟨h1, ?_⟩
  rcases h2 with h2 | ⟨g, cap, cur, hv, hB, hg, h3⟩
  · exact .inl h2
  · exact .inr ⟨g, cap, cur, hv, hB, (hb g (by rw [hv]; rfl)).trans hg, h3⟩
theorem OwnI.own_lt {B : Nat} {w : World} {v : Value} {zs : List Int} (h : Lst.OwnI B w v zs) {g : Nat} (hg : v.ownBlock = some g) : B ≤ g ∧ g < w.heap.size := by
  rcases h.form with ⟨_, hv⟩ | ⟨k, cap, hv, hB, hl, _⟩
  · rw [hv] at hg; cases hg
  · rw [hv] at hg
    have e : k = g := by injection hg
    subst e
    exact ⟨hB, hl⟩
section
variable {w0 W W' : World} {pa : Option Addr} {o : Option Nat} {room : Nat} {zs : List Cel} {bs : List (Nat × Obj)} {vl : Value} {xs : List Int}
theorem GG.below (h : GG w0 W pa o room zs bs vl xs) (hb : Below W.heap.size W W') : GG w0 W' pa o room zs bs vl xs := ⟨h.1.below hb, h.2.1.below hb, h.2.2⟩
theorem GG.addAt {g : Nat} (h : GG w0 W pa o room zs bs vl xs) (ob : Obj) (e : g = W.heap.size) : GG w0 (W.alloc ob) pa o room zs ((g, ob) :: bs) vl xs := by
  have h2 := h.below ((Below.refl _ _).alloc (Nat.le_refl _) ob)
  refine ⟨h.1.addAt ob e, h2.2.1, fun k hk => ⟨(h.2.2 k hk).1, fun q hq => ?_⟩⟩
  rcases List.mem_cons.1 hq with rfl | hq
  · have := (OwnI.own_lt h.2.1 hk).2; simp only; omega
  · exact (h.2.2 k hk).2 q hq
theorem GG.drop {bs' : List (Nat × Obj)} (h : GG w0 W pa o room zs bs vl xs) (hb : ∀ p ∈ bs', p ∈ bs) : GG w0 W pa o room zs bs' vl xs := ⟨h.1.drop hb, h.2.1, fun g hg => ⟨(h.2.2 g hg).1, fun q hq => (h.2.2 g hg).2 q (hb q hq)⟩⟩
theorem GG.step {zs' : List Cel} {e : Ending} {u : Value} (h : GG w0 W pa o room zs bs vl xs) (hs : ArStep (.pointer pa) o room zs' u W e W') : e = .returned u ∧ ∃ o', Hid (GG w0 W' pa o' room zs' bs vl xs) := by
  obtain ⟨he, o', h1, hsz, _, h4⟩ := h.1.1.step hs
  refine ⟨he, o', Lib.hid ⟨⟨h1, h.1.2.1.keep hsz h4, fun p hp => ?_⟩, OwnI.same h.2.1 fun g hg => (h4 g (OwnI.own_lt h.2.1 hg).2 (h.2.2 g hg).1).1, fun g hg => ⟨(h4 g (OwnI.own_lt h.2.1 hg).2 (h.2.2 g hg).1).2, (h.2.2 g hg).2⟩⟩⟩
  have := h4 p.1 (heap_lt (h.1.2.2 p hp).1) (h.1.2.2 p hp).2
  exact ⟨this.1.trans (h.1.2.2 p hp).1, this.2⟩
theorem GG.store {g : Nat} {ob ob' : Obj} (h : GG w0 W pa o room zs ((g, ob) :: bs) vl xs) (hn : ∀ p ∈ bs, p.1 ≠ g) (h0 : w0.heap.size ≤ g) (hs : Stored W g ob' W') : GG w0 W' pa o room zs ((g, ob') :: bs) vl xs := by
  refine ⟨h.1.store hn h0 hs, OwnI.same h.2.1 fun k hk => hs.2.2.2.2.2 k fun e => (h.2.2 k hk).2 (g, ob) (List.mem_cons_self ..) e.symm, fun k hk => ⟨(h.2.2 k hk).1, fun q hq => ?_⟩⟩
  rcases List.mem_cons.1 hq with rfl | hq
  · exact (h.2.2 k hk).2 (g, ob) (List.mem_cons_self ..)
  · exact (h.2.2 k hk).2 q (List.mem_cons_of_mem _ hq)
/-- The list grows. -/
theorem GG.app {vl' : Value} {xs' : List Int} (h : GG w0 W pa o room zs bs vl xs) (ho : Lst.OwnI w0.heap.size W' vl' xs') (hg : W.grownBy W' vl.ownBlock) (hat : vl'.ownBlock = vl.ownBlock ∨ vl'.ownBlock = some W.heap.size) : GG w0 W' pa o room zs bs vl' xs' := by
  have hf : Fr (fun k => vl.ownBlock = some k) W W' := Fr.of_grown hg fun k hk => hk
  obtain ⟨⟨⟨k1, k2, k3⟩, _, k5⟩, h2, h3⟩ := h
  refine ⟨⟨⟨k1.fr hf (fun g hv e => (h3 g e).1 hv), k2.grown hg k2.size (fun b hb => (OwnI.own_lt h2 hb).1), k3⟩, QS.nil _ _ _, fun q hq => ⟨(hf.block (heap_lt (k5 q hq).1) (fun e => (h3 _ e).2 q hq rfl)).trans (k5 q hq).1, (k5 q hq).2⟩⟩, ho, fun g hg' => ?_⟩
  rcases hat with e | e
  · rw [e] at hg'
    exact h3 g hg'
  · rw [e] at hg'
    injection hg' with hg'
    subst hg'
    exact ⟨fun k => Nat.lt_irrefl _ (k1.lt _ k), fun q hq e => Nat.lt_irrefl _ (e ▸ heap_lt (k5 q hq).1)⟩
/-- A list of pairs that a call has made is kept. -/
theorem GG.list {v : Value} {l : List Pai} (h : GG w0 W pa o room zs bs vl xs) (hb : Below W.heap.size W W') (hv : OwnPai W.heap.size W' v l) : ∃ nb, GG w0 W' pa o room zs (nb ++ bs) vl xs ∧ LV nb v l ∧ ∀ p ∈ nb, W.heap.size ≤ p.1 := by
  obtain ⟨nb, hp, hl, hn⟩ := h.1.list hb hv
  refine ⟨nb, ⟨hp, h.2.1.below hb, fun g hg => ⟨(h.2.2 g hg).1, fun q hq => ?_⟩⟩, hl, hn⟩
  rcases List.mem_append.1 hq with hq | hq
  · have := hn q hq; have := (OwnI.own_lt h.2.1 hg).2; omega
  · exact (h.2.2 g hg).2 q hq
end
theorem k0_insAt {T : Tre} (i : Nat) (x : Int) (h : K0 T) : K0 (Tre.insAt i x T) := chg_k0 (f := fun _ => Tre.node .nil 0 x .nil) (fun _ _ => ⟨rfl, trivial, trivial⟩) T _ h
theorem LV.form {es : List (Nat × Obj)} {v : Value} {l : List Pai} (h : LV es v l) : ∃ p c, v = .slice p l.length c := by
  rcases h with ⟨rfl, p, c, h, _⟩ | ⟨p, _, _, cap, cur, _, h, _⟩
  · exact ⟨p, c, h⟩
  · exact ⟨_, _, h⟩
end Go.Proofs.Ytpbkclciipmonaa.F
