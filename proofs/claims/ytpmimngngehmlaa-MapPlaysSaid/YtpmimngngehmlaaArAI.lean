/-
  An arena of the call's own: what stays on the way. Not a statement of the seat.
-/
import Derived.Test.YtpmimngngehmlaaAr4
namespace Go.Proofs.Ytpmimngngehmlaa.F
open Go.ChangeShapes Go.WideShapes Go.ChangeAt Go.RowKit Base
/-- An arena that the call made itself. -/
def AI (w0 w : World) (pv : Value) (o : Option Nat) (room : Nat) (zs : List Cel) : Prop := ArV w pv o room zs ∧ Below w0.heap.size w0 w ∧ ∀ g, VF pv o g → w0.heap.size ≤ g
theorem AI.below {w0 w w' : World} {pv : Value} {o : Option Nat} {room : Nat} {zs : List Cel} (h : AI w0 w pv o room zs) (hb : Below w.heap.size w w') : AI w0 w' pv o room zs :=
  ⟨h.1.below hb, h.2.1.trans (hb.mono h.2.1.size), h.2.2⟩
theorem AI.step {w0 w w' : World} {pv v : Value} {o : Option Nat} {room : Nat} {zs zs' : List Cel} {e : Ending} (h : AI w0 w pv o room zs) (hs : ArStep pv o room zs' v w e w') :
    e = .returned v ∧ ∃ o', AI w0 w' pv o' room zs' ∧ w.heap.size ≤ w'.heap.size ∧ Fr (VF pv o) w w' ∧ ∀ g, g < w.heap.size → ¬ VF pv o g → w'.heap[g]? = w.heap[g]? ∧ ¬ VF pv o' g := by
  obtain ⟨he, o', h1, h2, h3⟩ := hs
  refine ⟨he, o', ⟨h1, ?_, fun g hg => ?_⟩, h3.size, h3, fun g hg hn => ⟨h3.block hg hn, fun k => hn (h2.vf g hg k)⟩⟩
  · have := (Fr.of_below (F := VF pv o) h.2.1).trans h3 (fun g _ k => k)
    exact this.below h.2.2 (Nat.le_refl _)
  · rcases Nat.lt_or_ge g w.heap.size with hl | hl
    · exact h.2.2 g (h2.vf g hl hg)
    · exact Nat.le_trans h.2.1.size hl
theorem AI.new {w0 w : World} {b room : Nat} (h : ArAt w b none room []) (hb : Below w0.heap.size w0 w) (hg : w0.heap.size ≤ b) : AI w0 w (.pointer (some ⟨b, 0, none⟩)) none room [] :=
  ⟨ArV.of h, hb, fun g k => by
    rcases k with k | k
    · injection k with k; injection k with k; injection k with k; exact k ▸ hg
    · cases k⟩
/-- A cell's box. -/
def Box (w : World) (g : Nat) (c : Cel) : Prop := w.heap[g]? = some (.cells #[.int .i64 c.l, .int .i64 c.r, .int .i64 c.k, .int .i64 c.v, .int .i64 c.s, .int .i64 c.h] 110)
theorem Box.cells {w : World} {g : Nat} {c : Cel} (h : Box w g c) : g < w.heap.size ∧ (w.cell? ⟨g, 0, none⟩ = some (.int .i64 c.l) ∧ w.cell? ⟨g, 1, none⟩ = some (.int .i64 c.r) ∧ w.cell? ⟨g, 2, none⟩ = some (.int .i64 c.k) ∧ w.cell? ⟨g, 3, none⟩ = some (.int .i64 c.v) ∧ w.cell? ⟨g, 4, none⟩ = some (.int .i64 c.s) ∧ w.cell? ⟨g, 5, none⟩ = some (.int .i64 c.h)) := by
  unfold Box at h
  exact ⟨heap_lt h, by simp [World.cell?, h]⟩
theorem Box.below {w w' : World} {g : Nat} {c : Cel} (h : Box w g c) (hb : Below w.heap.size w w') : Box w' g c := (hb.block g (heap_lt h)).trans h
theorem ArStep.nil_below {o : Option Nat} {room : Nat} {zs : List Cel} {v : Value} {w w' : World} {e : Ending} (h : ArStep (.pointer none) o room zs v w e w') (ho : o = none) : e = .returned v ∧ Below w.heap.size w w' := by
  obtain ⟨he, o', _, _, h3⟩ := h
  subst ho
  refine ⟨he, h3.below (fun g hg => ?_) (Nat.le_refl _)⟩
  rcases hg with k | k <;> cases k
/-- What Get tells, the cell's fields typed out. -/
def GetX (x : Cel) (is : Bool) (w : World) (e : Ending) (w' : World) : Prop := e = .returned (.tuple #[.agg #[.int .i64 x.l, .int .i64 x.r, .int .i64 x.k, .int .i64 x.v, .int .i64 x.s, .int .i64 x.h], .bool is]) ∧ Below w.heap.size w w'
theorem arget_x {pv : Value} {o : Option Nat} {room : Nat} {zs : List Cel} (i : Int) (x : Cel) (is : Bool) (w : World) (h : ArV w pv o room zs) (hx : celAt zs i = x) (hi : decide (1 ≤ i ∧ i ≤ (zs.length : Int)) = is) : Calls Try.prog 107 #[pv, .int .i64 i] w (GetX x is w) := by
  have := arget_v i w h
  rw [hx, hi] at this
  exact this
end Go.Proofs.Ytpmimngngehmlaa.F
