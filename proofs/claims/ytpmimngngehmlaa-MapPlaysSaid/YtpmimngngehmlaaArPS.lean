/-
  An arena, a list beside it, and boxes: what stays. Not a statement of the seat.
-/
import Derived.Test.YtpmimngngehmlaaArAI
import Derived.Test.YtpmimngngehmlaaCelBox
namespace Go.Proofs.Ytpmimngngehmlaa.F
open Go.ChangeShapes Go.WideShapes Go.ChangeAt Go.RowKit Base
/-- The slice v holds zs, and lies beside an arena. -/
def QS (w : World) (v : Value) (zs : List Cel) (pv : Value) (o : Option Nat) : Prop :=
  (zs = [] ∧ ∃ p c, v = .slice p 0 c ∧ (p = none → c = 0)) ∨ ∃ g off c, v = .slice (some ⟨g, off, none⟩) zs.length c ∧ zs.length ≤ c ∧ g < w.heap.size ∧ ¬ VF pv o g ∧ Cels 0 w v zs
theorem QS.nil (w : World) (pv : Value) (o : Option Nat) : QS w (.slice none 0 0) [] pv o := .inl ⟨rfl, none, 0, rfl, fun _ => rfl⟩
theorem QS.cels {w : World} {v : Value} {zs : List Cel} {pv : Value} {o : Option Nat} (h : QS w v zs pv o) : Cels 0 w v zs := by
  rcases h with ⟨rfl, h⟩ | ⟨_, _, _, _, _, _, _, h⟩
  · exact .inl ⟨h, rfl⟩
  · exact h
theorem QS.form {w : World} {v : Value} {zs : List Cel} {pv : Value} {o : Option Nat} (h : QS w v zs pv o) : ∃ p c, v = .slice p zs.length c ∧ zs.length ≤ c := by
  rcases h with ⟨rfl, p, c, h, _⟩ | ⟨g, off, c, h, h1, _⟩
  · exact ⟨p, c, h, Nat.zero_le _⟩
  · exact ⟨_, c, h, h1⟩
theorem QS.keep {w w' : World} {v : Value} {zs : List Cel} {pv : Value} {o o' : Option Nat} (h : QS w v zs pv o) (hs : w.heap.size ≤ w'.heap.size) (hk : ∀ g, g < w.heap.size → ¬ VF pv o g → w'.heap[g]? = w.heap[g]? ∧ ¬ VF pv o' g) : QS w' v zs pv o' := by
  rcases h with h | ⟨g, off, c, hv, h1, h2, h3, h4⟩
  · exact .inl h
  · have hk := hk g h2 h3
    refine .inr ⟨g, off, c, hv, h1, Nat.lt_of_lt_of_le h2 hs, hk.2, ?_⟩
    rcases h4 with h4 | ⟨g', o', c', hv', h5, h6, h7, h8⟩
    · exact .inl h4
    · have e : g' = g := by rw [hv] at hv'; injection hv' with e; injection e with e; injection e with e; exact e.symm
      subst e
      refine .inr ⟨g', o', c', hv', h5, Nat.lt_of_lt_of_le h6 hs, h7, fun k hk' => ?_⟩
      have key : ∀ j, w'.cell? ⟨g', j, none⟩ = w.cell? ⟨g', j, none⟩ := fun j => World.cell?_of_block (a := ⟨g', j, none⟩) hk.1
      simp only [key]
      exact h8 k hk'
theorem QS.below {w w' : World} {v : Value} {zs : List Cel} {pv : Value} {o : Option Nat} (h : QS w v zs pv o) (hb : Below w.heap.size w w') : QS w' v zs pv o :=
  h.keep hb.size fun g hg hn => ⟨hb.block g hg, hn⟩
theorem QS.cut {w : World} {p : Option Addr} {c : Nat} {zs : List Cel} {pv : Value} {o : Option Nat} (h : QS w (.slice p zs.length c) zs pv o) {n : Nat} (hn : n ≤ zs.length) : QS w (.slice p n c) (zs.take n) pv o := by
  have hl : (zs.take n).length = n := by rw [List.length_take]; omega
  rcases h with ⟨rfl, p', c', e, h⟩ | ⟨g, off, c', hv, h1, h2, h3, h4⟩
  · injection e with e1 e2 e3
    subst e1 e3
    have : n = 0 := by simpa using hn
    subst this
    exact .inl ⟨rfl, _, _, rfl, h⟩
  · injection hv with e1 e2 e3
    subst e1 e3
    by_cases h0 : n = 0
    · subst h0
      exact .inl ⟨by simp, _, _, rfl, fun e => by cases e⟩
    · refine .inr ⟨g, off, c, by rw [hl], by omega, h2, h3, ?_⟩
      rcases h4 with ⟨_, h4⟩ | ⟨g', o', c', hv', h5, h6, h7, h8⟩
      · subst h4; simp at hn; omega
      · injection hv' with e1 e2 e3
        injection e1 with e1
        injection e1 with e1 e4
        subst e1 e4 e3
        refine .inr ⟨g, off, c, by rw [hl], h5, h6, by omega, fun k hk => ?_⟩
        rw [hl] at hk
        have : (zs.take n).getD k Cel.zero = zs.getD k Cel.zero := by
          rw [List.getD_eq_getElem?_getD, List.getD_eq_getElem?_getD, List.getElem?_take, if_pos hk]
        rw [this]
        exact h8 k (by omega)
/-- What stays on the way: an arena of the call's own, a list beside it, boxes. -/
def PS (w0 w : World) (pv : Value) (o : Option Nat) (room : Nat) (zs : List Cel) (v : Value) (zq : List Cel) (bs : List (Nat × Obj)) : Prop :=
  AI w0 w pv o room zs ∧ QS w v zq pv o ∧ ∀ p ∈ bs, w.heap[p.1]? = some p.2 ∧ ¬ VF pv o p.1
section
variable {w0 w w' : World} {pv v : Value} {o : Option Nat} {room : Nat} {zs zq : List Cel} {bs : List (Nat × Obj)}
theorem PS.below (h : PS w0 w pv o room zs v zq bs) (hb : Below w.heap.size w w') : PS w0 w' pv o room zs v zq bs :=
  ⟨h.1.below hb, h.2.1.below hb, fun p hp => ⟨(hb.block _ (heap_lt (h.2.2 p hp).1)).trans (h.2.2 p hp).1, (h.2.2 p hp).2⟩⟩
theorem PS.step {zs' : List Cel} {e : Ending} {u : Value} (h : PS w0 w pv o room zs v zq bs) (hs : ArStep pv o room zs' u w e w') :
    e = .returned u ∧ ∃ o', Hid (PS w0 w' pv o' room zs' v zq bs) := by
  obtain ⟨he, o', h1, hsz, _, h4⟩ := h.1.step hs
  refine ⟨he, o', Lib.hid ⟨h1, h.2.1.keep hsz h4, fun p hp => ?_⟩⟩
  have := h4 p.1 (heap_lt (h.2.2 p hp).1) (h.2.2 p hp).2
  exact ⟨this.1.trans (h.2.2 p hp).1, this.2⟩
theorem PS.add (h : PS w0 w pv o room zs v zq bs) (ob : Obj) : PS w0 (w.alloc ob) pv o room zs v zq ((w.heap.size, ob) :: bs) := by
  have h2 := h.below ((Below.refl _ _).alloc (Nat.le_refl _) ob)
  refine ⟨h2.1, h2.2.1, fun p hp => ?_⟩
  rcases List.mem_cons.1 hp with rfl | hp
  · exact ⟨heap_alloc_at _ _ _ rfl, fun k => Nat.lt_irrefl _ (h.1.1.lt _ k)⟩
  · exact h2.2.2 p hp
theorem PS.drop {bs' : List (Nat × Obj)} (h : PS w0 w pv o room zs v zq bs) (hb : ∀ p ∈ bs', p ∈ bs) : PS w0 w pv o room zs v zq bs' := ⟨h.1, h.2.1, fun p hp => h.2.2 p (hb p hp)⟩
theorem PS.q {v' : Value} {zq' : List Cel} (h : PS w0 w pv o room zs v zq bs) (hq : QS w v' zq' pv o) : PS w0 w pv o room zs v' zq' bs := ⟨h.1, hq, h.2.2⟩
end
end Go.Proofs.Ytpmimngngehmlaa.F
