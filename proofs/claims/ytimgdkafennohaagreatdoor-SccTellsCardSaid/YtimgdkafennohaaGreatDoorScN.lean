/-
  Components: what newFinder leaves. Not a statement of the seat.
-/
import Derived.Test.YtimgdkafennohaaGreatDoorHead10
import Derived.Deep.RegionHeld3
import Derived.Carry
namespace Go.Proofs.YtimgdkafennohaaGreatDoor.Sc
open Go.ChangeShapes Go.WideShapes Go.ChangeAt Go.RowKit Base F Bits
def st0 : St := ⟨0, fun _ => 0, fun _ => 0, [], fun _ => 0⟩
def NewF (n : Nat) (fv : Value) (w : World) (e : Ending) (w' : World) : Prop := ∃ k : Blk, e = .returned (.pointer (some ⟨k.b, 0, none⟩)) ∧ FS w.heap.size k n fv w' none st0 ∧ Below w.heap.size w w'
def rowLen' (n : Int) : Nat := Bits.rowLen n
def CF (w : World) (g : Nat) (o : Obj) (u : World) : Prop := w.heap.size ≤ g ∧ u.heap[g]? = some o
def SF (w : World) (g room : Nat) (u : World) : Prop := w.heap.size ≤ g ∧ SAt u g none room []
def RF_ (w : World) (g h n : Nat) (u : World) : Prop := (w.heap.size ≤ g ∧ w.heap.size ≤ h) ∧ RowAt u g h n 0
theorem CF.below {w u u' : World} {g : Nat} {o : Obj} (h : CF w g o u) (hb : Below u.heap.size u u') : CF w g o u' := ⟨h.1, (hb.block g (heap_lt h.2)).trans h.2⟩
theorem CF.lt {w u : World} {g : Nat} {o : Obj} (h : CF w g o u) : g < u.heap.size := heap_lt h.2
theorem SF.below {w u u' : World} {g room : Nat} (h : SF w g room u) (hb : Below u.heap.size u u') : SF w g room u' := ⟨h.1, h.2.below hb⟩
theorem RF_.below {w u u' : World} {g k n : Nat} (h : RF_ w g k n u) (hb : Below u.heap.size u u') : RF_ w g k n u' := ⟨h.1, h.2.below hb⟩
theorem CF.new {w U u : World} {g : Nat} {o : Obj} (hs : w.heap.size ≤ U.heap.size) (hg : g = U.heap.size) (hu : u = U.alloc o) : CF w g o u := by
  subst hg hu
  exact ⟨hs, heap_alloc_at _ _ _ rfl⟩
theorem SF.new {w U u : World} {g room : Nat} (hs : w.heap.size ≤ U.heap.size) (hg : g = U.heap.size) (h : SAt u g none room []) : SF w g room u := ⟨by omega, h⟩
theorem RF_.new {w U u : World} {g n : Nat} (hs : w.heap.size ≤ U.heap.size) (hg : g = U.heap.size) (h : RowAt u (g + 1) g n 0) : RF_ w (g + 1) g n u := ⟨⟨by omega, by omega⟩, h⟩
theorem hbt {w U u : World} (h : Below w.heap.size w U) (hb : Below U.heap.size U u) : Below w.heap.size w u := h.trans (hb.mono h.size)
theorem newF_key {w u : World} {n : Nat} {fv : Value} (hn : n ≤ 4096) (g1 g2 g3 g4 g5 g6 : Nat) (hB : Below w.heap.size w u) (h2 : CF w g1 (.cells (madeCells #[.int .i64 0] n) 3) u) (h3 : CF w g2 (.cells (madeCells #[.int .i64 0] n) 3) u) (h4 : CF w g3 (.cells (madeCells #[.int .i64 0] n) 3) u)
    (h5 : SF w g4 (roomOf (n : Int)) u) (h6 : RF_ w g5 g6 (rowLen' (n : Int)) u) (d1 : g1 ≠ g2) (d2 : g1 ≠ g3) (d3 : g2 ≠ g3) : NewF n fv w (.returned (.pointer (some ⟨u.heap.size, 0, none⟩))) (u.alloc (.cells #[fv, .int .i64 0, .slice (some ⟨g1, 0, none⟩) n n, .slice (some ⟨g2, 0, none⟩) n n, .pointer (some ⟨g4, 0, none⟩), .pointer (some ⟨g5, 0, none⟩), .slice (some ⟨g3, 0, none⟩) n n] 57)) := by
  have hb : Below u.heap.size u (u.alloc (.cells #[fv, .int .i64 0, .slice (some ⟨g1, 0, none⟩) n n, .slice (some ⟨g2, 0, none⟩) n n, .pointer (some ⟨g4, 0, none⟩), .pointer (some ⟨g5, 0, none⟩), .slice (some ⟨g3, 0, none⟩) n n] 57)) := (Below.refl _ _).alloc (Nat.le_refl _) _
  have e1 : roomOf (n : Int) = n := by unfold roomOf; omega
  have e2 : rowLen' (n : Int) = n := by unfold rowLen' Bits.rowLen; omega
  rw [e1] at h5
  rw [e2] at h6
  refine ⟨⟨u.heap.size, g1, g2, g4, g5, g6, g3⟩, rfl, ⟨heap_alloc_at _ _ _ rfl, ?_, ?_, ?_, (h5.below hb).2, ⟨0, (h6.below hb).2, fun x => by simp [st0]⟩, ⟨hB.size, h2.1, h3.1, h5.1, h6.1.1, h6.1.2, h4.1⟩, ⟨d1, d2, d3⟩, (fun g hg => by cases hg), hn, Nat.le_trans hB.size hb.size⟩, hbt hB hb⟩
  · rw [(h2.below hb).2, intsF_zero]; rfl
  · rw [(h3.below hb).2, intsF_zero]; rfl
  · rw [(h4.below hb).2, intsF_zero]; rfl
end Go.Proofs.YtimgdkafennohaaGreatDoor.Sc
