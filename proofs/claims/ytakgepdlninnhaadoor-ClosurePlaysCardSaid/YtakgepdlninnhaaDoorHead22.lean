/-
  Contracts of small functions, several texts laid into one. Not a statement of the seat.
-/
import Derived.Test.YtakgepdlninnhaaDoorHead2
import Derived.Test.YtakgepdlninnhaaDoorFrame
import Derived.Deep.QuietTactic
import Derived.RegionTactic
import Derived.BigRegion
namespace Go.Proofs.YtakgepdlninnhaaDoor.F
open Go.ChangeShapes Go.WideShapes Go.ChangeAt Go.RowKit Base
/-- Each cell points to cells ahead of it. -/
def Bk (zs : List Cel) : Prop := ∀ (i : Nat) (c : Cel), zs[i]? = some c → (0 ≤ c.l ∧ c.l ≤ (i : Int)) ∧ (0 ≤ c.r ∧ c.r ≤ (i : Int))
theorem Bk.nil : Bk [] := fun i c h => by simp at h
theorem Bk.snoc {zs : List Cel} {c : Cel} (h : Bk zs) (hc : (0 ≤ c.l ∧ c.l ≤ (zs.length : Int)) ∧ (0 ≤ c.r ∧ c.r ≤ (zs.length : Int))) : Bk (zs ++ [c]) := fun i x hx => by
  rcases Nat.lt_trichotomy i zs.length with hi | hi | hi
  · rw [List.getElem?_append_left hi] at hx; exact h i x hx
  · subst hi
    simp at hx
    subst hx
    exact hc
  · rw [List.getElem?_eq_none (by simp; omega)] at hx; cases hx
theorem Bk.take {zs : List Cel} (h : Bk zs) (n : Nat) : Bk (zs.take n) := fun i x hx => by
  rw [List.getElem?_take] at hx
  split at hx
  · exact h i x hx
  · cases hx
/-- The room of an arena of which so much was asked. -/
def roomOf (n : Int) : Nat := (min (max n 0) 65536).toNat
theorem roomOf_eq (n : Int) : ((roomOf n : Nat) : Int) = min (max n 0) 65536 := by unfold roomOf; omega
theorem roomOf_le (n : Int) : roomOf n ≤ 65536 := by unfold roomOf; omega
/-- What a call that tells a number, and draws, leaves. -/
def IntDrew (r : Int) (w : World) (e : Ending) (w' : World) : Prop := e = .returned (.int .i64 r) ∧ ∃ n, w' = w.drewN n
/-- What a call that tells a bool leaves. -/
def BoolSame (is : Bool) (w : World) (e : Ending) (w' : World) : Prop := e = .returned (.bool is) ∧ w = w'
end Go.Proofs.YtakgepdlninnhaaDoor.F
namespace Go.Proofs.YtakgepdlninnhaaDoor.F
open Go.ChangeShapes Go.WideShapes Go.ChangeAt Go.RowKit Base
/-- A cell by value. -/
def Cel.agg (x : Cel) : Value := .agg #[.int .i64 x.l, .int .i64 x.r, .int .i64 x.k, .int .i64 x.v, .int .i64 x.s, .int .i64 x.h]
/-- What Get tells. -/
def GetPost (x : Cel) (is : Bool) (w : World) (e : Ending) (w' : World) : Prop := e = .returned (.tuple #[x.agg, .bool is]) ∧ Below w.heap.size w w'
theorem Cel.zero_agg : Cel.zero.agg = .agg #[.int .i64 0, .int .i64 0, .int .i64 0, .int .i64 0, .int .i64 0, .int .i64 0] := rfl
/-- The cell of a number. -/
def celAt (zs : List Cel) (i : Int) : Cel := if 1 ≤ i then zs.getD (i.toNat - 1) Cel.zero else Cel.zero
/-- The blocks of an arena. -/
def ArF (b : Nat) (o : Option Nat) (g : Nat) : Prop := g = b ∨ o = some g
theorem Fr.setCell {F : Nat → Prop} {w w' : World} (h : Fr F w w') {b : Nat} (hb : F b) (j : Nat) (v : Value) : Fr F w (w'.setCell ⟨b, j, none⟩ v) :=
  ⟨h.1, h.2.1, h.2.2.1, by simpa [World.setCell] using h.size, fun g hg hn => (Below.heap_setCell _ _ _ _ (fun e => hn (by rw [e]; exact hb))).trans (h.block hg hn)⟩
end Go.Proofs.YtakgepdlninnhaaDoor.F
namespace Go.Proofs.YtakgepdlninnhaaDoor.F
open Go.ChangeShapes Go.WideShapes Go.ChangeAt Go.RowKit Base
/-- Is a cell right for an arena that has n cells? -/
def fitC (c : Cel) (n : Nat) : Prop := (0 ≤ c.l ∧ c.l ≤ (n : Int)) ∧ (0 ≤ c.r ∧ c.r ≤ (n : Int))
instance (c : Cel) (n : Nat) : Decidable (fitC c n) := by unfold fitC; infer_instance
/-- What a call that tells a number, and why there is none, and may make memory, leaves. -/
def NumPost (i y : Int) (w : World) (e : Ending) (w' : World) : Prop := e = .returned (.tuple #[.int .i64 i, .int .i64 y]) ∧ Below w.heap.size w w'
end Go.Proofs.YtakgepdlninnhaaDoor.F
namespace Go.Proofs.YtakgepdlninnhaaDoor.F
open Go.ChangeShapes Go.WideShapes Go.ChangeAt Go.RowKit Base
/-- The blocks of an arena. -/
def VF (pv : Value) (o : Option Nat) (g : Nat) : Prop := pv = .pointer (some ⟨g, 0, none⟩) ∨ o = some g
/-- Cells lie where they lay, or in a new block. -/
def Mv (o o' : Option Nat) (w : World) : Prop := o' = o ∨ ∃ g, o' = some g ∧ w.heap.size ≤ g
theorem Mv.refl (o : Option Nat) (w : World) : Mv o o w := .inl rfl
theorem Mv.trans {o o' o'' : Option Nat} {w w' : World} (h : Mv o o' w) (k : Mv o' o'' w') (hs : w.heap.size ≤ w'.heap.size) : Mv o o'' w := by
  rcases k with rfl | ⟨g, e, hg⟩
  · exact h
  · exact .inr ⟨g, e, Nat.le_trans hs hg⟩
theorem Mv.lower {o o' : Option Nat} {w w' : World} (h : Mv o o' w') (hs : w.heap.size ≤ w'.heap.size) : Mv o o' w := by
  rcases h with rfl | ⟨g, e, hg⟩
  · exact .inl rfl
  · exact .inr ⟨g, e, Nat.le_trans hs hg⟩
theorem Mv.vf {pv : Value} {o o' : Option Nat} {w : World} (h : Mv o o' w) (g : Nat) (hg : g < w.heap.size) (k : VF pv o' g) : VF pv o g := by
  rcases k with k | k
  · exact .inl k
  · rcases h with rfl | ⟨g', e, hg'⟩
    · exact .inr k
    · rw [e] at k; injection k with k; omega
/-- What becomes of a cell put to an arena: the cells, what is told. -/
def putA (room : Nat) (zs : List Cel) (c : Cel) : List Cel × Int × Int :=
  if fitC c zs.length then if zs.length < room then (zs ++ [c], (zs.length : Int) + 1, 0) else (zs, 0, 2) else (zs, 0, 1)
/-- What becomes of an arena that is cut. -/
def cutA (zs : List Cel) (n : Int) : List Cel × Bool := if 0 ≤ n ∧ n ≤ (zs.length : Int) then (zs.take n.toNat, true) else (zs, false)
end Go.Proofs.YtakgepdlninnhaaDoor.F
