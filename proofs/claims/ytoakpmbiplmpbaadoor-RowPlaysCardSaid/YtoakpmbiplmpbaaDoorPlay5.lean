/-
  What holds between the rounds of RowPlays: two rows and their places; a deed done to one of them. Not a statement of the seat.
-/
import Derived.Test.YtoakpmbiplmpbaaDoorPlay4
namespace Go.Proofs.YtoakpmbiplmpbaaDoor.Bits
open Go.ChangeShapes Go.WideShapes Go.ChangeAt Go.RowKit Base Go.Shelf
/-- Two rows that the call made stand apart, each beside a list of its places. -/
def PI (W w : World) (ba ga n A bb gb m B : Nat) (x y : Value) : Prop :=
  Below W.heap.size W w ∧ RowAt w ba ga n A ∧ RowAt w bb gb m B ∧ Ints 0 w x (intsOf n A) ∧ Ints 0 w y (intsOf m B) ∧ (W.heap.size ≤ ga ∧ W.heap.size ≤ gb ∧ ga ≠ gb)
section
variable {W w w1 : World} {ba ga n A bb gb m B : Nat} {x y : Value}
theorem PI.step (h : PI W w ba ga n A bb gb m B x y) (hb : Below w.heap.size w w1) : PI W w1 ba ga n A bb gb m B x y :=
  ⟨h.1.trans (hb.mono h.1.size), h.2.1.below hb, h.2.2.1.below hb, h.2.2.2.1.below hb, h.2.2.2.2.1.below hb, h.2.2.2.2.2⟩
theorem PI.swap (h : PI W w ba ga n A bb gb m B x y) : PI W w bb gb m B ba ga n A y x :=
  ⟨h.1, h.2.2.1, h.2.1, h.2.2.2.2.1, h.2.2.2.1, h.2.2.2.2.2.2.1, h.2.2.2.2.2.1, fun e => h.2.2.2.2.2.2.2 e.symm⟩
theorem PI.alloc (h : PI W w ba ga n A bb gb m B x y) (o : Obj) : PI W (w.alloc o) ba ga n A bb gb m B x y := h.step ((Below.refl _ w).alloc (Nat.le_refl _) o)
theorem PI.turn {e : Ending} (h : PI W w ba ga n A bb gb m B x y) (hp : DoesPost ba ga n w e w1) :
    ∃ (b' g' V' : Nat) (x' : Value) (res : Bool), e = .returned (.tuple #[.pointer (some ⟨b', 0, none⟩), x', .bool res, .bool res]) ∧ PI W w1 b' g' n V' bb gb m B x' y ∧ w.grownBy w1 (some ga) := by
  obtain ⟨b', g', V', x', res, he, hr, hx, hg, hc⟩ := hp
  obtain ⟨h1, h2, h3, h4, h5, h6, h7, h8⟩ := h
  refine ⟨b', g', V', x', res, he, ⟨h1.grown hg h1.size (by intro k hk; cases hk; exact h6), hr, h3.grown hg (h3.apart h2) (fun e => h8 e.symm), hx, h5.turned h2 hg, ?_, h7, ?_⟩, hg⟩
  · rcases hc with ⟨_, e⟩ | ⟨_, e⟩
    · rw [e]; exact h6
    · exact Nat.le_trans h1.size e
  · rcases hc with ⟨_, e⟩ | ⟨_, e⟩
    · rw [e]; exact h8
    · have := heap_lt h3.2.1
      omega
theorem PI.own_lt (h : PI W w ba ga n A bb gb m B x y) : ga < w.heap.size := heap_lt h.2.1.2.1
theorem held_pi {A B : Prop} (h : A ∧ Hid B) : B := h.2.out
theorem kept {A B : Prop} (h : Hid (A ∧ Hid B)) : B := h.out.2.out
theorem pi_start {D : Nat} {I : Int} (h : Hid (PI W w ba ga n A bb gb m B x y)) (hc : w.cell? ⟨D, 2, none⟩ = some (.int .i64 I)) : w.drew.cell? ⟨D, 2, none⟩ = some (.int .i64 I) ∧ Hid (PI W w.drew ba ga n A bb gb m B x y) :=
  ⟨hc, Lib.hid (h.out.step (Below.refl _ _).drew)⟩
theorem pi_keep {D : Nat} {I : Int} (h : w.cell? ⟨D, 2, none⟩ = some (.int .i64 I) ∧ Hid (PI W w ba ga n A bb gb m B x y)) (hb : Below w.heap.size w w1) : w1.cell? ⟨D, 2, none⟩ = some (.int .i64 I) ∧ Hid (PI W w1 ba ga n A bb gb m B x y) :=
  ⟨(hb.cell (p := ⟨D, 2, none⟩) (World.block_lt_of_cell? w _ h.1)).trans h.1, Lib.hid (h.2.out.step hb)⟩
theorem pi_kept {D : Nat} {I : Int} (h : Hid (w.cell? ⟨D, 2, none⟩ = some (.int .i64 I) ∧ Hid (PI W w ba ga n A bb gb m B x y))) (hb : Below w.heap.size w w1) : Hid (w1.cell? ⟨D, 2, none⟩ = some (.int .i64 I) ∧ Hid (PI W w1 ba ga n A bb gb m B x y)) := Lib.hid (pi_keep h.out hb)
theorem PI.tellsA (h : PI W w ba ga n A bb gb m B x y) (hT : TabAt 0 Lib.deBruijn64tab W) (hg : 0 < W.heap.size) (z : Int) :
    Calls Tryd.prog 12 #[.pointer (some ⟨ba, 0, none⟩), .int .i64 (n : Int), x, .int .i64 z] w fun e w' => e = .returned (.bool true) ∧ Below w.heap.size w w' :=
  tells_any ba ga n A x z w h.2.1 h.2.2.2.1 (tab_below hT hg h.1) (Nat.lt_of_lt_of_le hg h.1.size)
theorem PI.tellsB (h : PI W w ba ga n A bb gb m B x y) (hT : TabAt 0 Lib.deBruijn64tab W) (hg : 0 < W.heap.size) (z : Int) :
    Calls Tryd.prog 12 #[.pointer (some ⟨bb, 0, none⟩), .int .i64 (m : Int), y, .int .i64 z] w fun e w' => e = .returned (.bool true) ∧ Below w.heap.size w w' := h.swap.tellsA hT hg z
theorem PI.same (h : PI W w ba ga n A bb gb m B x y) : Calls Tryd.prog 14 #[.pointer (some ⟨ba, 0, none⟩), .pointer (some ⟨bb, 0, none⟩)] w fun e w' => e = .returned (.bool (sameR n A m B)) ∧ Below w.heap.size w w' :=
  same_two ba ga A bb gb B n m w h.2.1 h.2.2.1
theorem PI.lenA (h : PI W w ba ga n A bb gb m B x y) : Calls Tryd.prog 15 #[.pointer (some ⟨ba, 0, none⟩)] w fun e w' => e = .returned (.int .i64 n) ∧ w = w' := len_any ba ga n A w h.2.1
theorem PI.lenB (h : PI W w ba ga n A bb gb m B x y) : Calls Tryd.prog 15 #[.pointer (some ⟨bb, 0, none⟩)] w fun e w' => e = .returned (.int .i64 m) ∧ w = w' := len_any bb gb m B w h.2.2.1
theorem PI.ints (h : PI W w ba ga n A bb gb m B x y) : Calls Tryd.prog 16 #[x, y] w fun e w' => e = .returned (.bool (decide (intsOf n A = intsOf m B))) ∧ Below w.heap.size w w' :=
  (sameInts_ints h.2.2.2.1 h.2.2.2.2.1).mono fun _ _ ⟨he, q, hq⟩ => ⟨he, by rw [hq]; exact below_drewN (Below.refl _ _) q⟩
end
end Go.Proofs.YtoakpmbiplmpbaaDoor.Bits
