/-
  Contracts of small functions, several texts laid into one. Not a statement of the seat.
-/
import Derived.Test.YtakgepdlninnhaaDoorHead11
import Derived.Test.YtakgepdlninnhaaDoorHead2
import Derived.Deep.QuietTactic
import Derived.BigQuiet
namespace Go.Proofs.YtakgepdlninnhaaDoor.Gr
open Go.ChangeShapes Go.WideShapes Go.ChangeAt Go.RowKit Base F Rf
open Go.Proofs.YtakgepdlninnhaaDoor.Tx (Aft Aft.refl Aft.lay Aft.trans Aft.one Aft.cell Aft.drew BoolNew)
instance : DecidableEq Arc := fun x y => decidable_of_iff (Arc.beq x y = true) (Arc.beq_iff x y)
def bxA (x : Arc) : Obj := .cells #[.int .i64 x.fr, .int .i64 x.to, .int .i64 x.kd, .int .i64 x.lb] 68
def vA (x : Arc) : Value := .agg #[.int .i64 x.fr, .int .i64 x.to, .int .i64 x.kd, .int .i64 x.lb]
theorem cellsA {w : World} {g : Nat} {b : Arc} (h : w.heap[g]? = some (bxA b)) : w.cell? ⟨g, 0, none⟩ = some (.int .i64 b.fr) ∧ w.cell? ⟨g, 1, none⟩ = some (.int .i64 b.to) ∧ w.cell? ⟨g, 2, none⟩ = some (.int .i64 b.kd) ∧ w.cell? ⟨g, 3, none⟩ = some (.int .i64 b.lb) := by
  unfold bxA at h
  simp [World.cell?, h]
def RA (w wr : World) (v : Value) (zs : List Arc) : Prop := Aft w wr ∧ OwnArc w.heap.size wr v zs
theorem RA.aft {w wr W : World} {v : Value} {zs : List Arc} (h : RA w wr v zs) (ha : Aft wr W) : RA w W v zs := ⟨h.1.trans ha, h.2.below ha⟩
theorem RA.lay {w wr : World} {v : Value} {zs : List Arc} (h : RA w wr v zs) (o : Obj) : RA w (wr.alloc o) v zs := h.aft (Aft.one o)
theorem RA.app {w wr W : World} {v v' : Value} {zs zs' : List Arc} (h : RA w wr v zs) (ho : OwnArc w.heap.size W v' zs') (hg : wr.grownBy W v.ownBlock) : RA w W v' zs' := ⟨Below.grown h.1 hg h.1.size (fun q hq => (h.2.base q hq).1), ho⟩
theorem ownA_less {B B' : Nat} {w : World} {v : Value} {zs : List Arc} (h : OwnArc B w v zs) (hb : B' ≤ B) : OwnArc B' w v zs := by
  refine ⟨h.1, ?_⟩
  rcases h.2 with h2 | ⟨g, cap, cur, h1, h2, h3⟩
  · exact .inl h2
  · exact .inr ⟨g, cap, cur, h1, Nat.le_trans hb h2, h3⟩
/-- The same, with a box of the call's own at the first new place. -/
def RB (w : World) (a : Arc) (wr : World) (v : Value) (zs : List Arc) : Prop := Aft w wr ∧ OwnArc (w.heap.size + 1) wr v zs ∧ wr.heap[w.heap.size]? = some (bxA a)
theorem RB.aft {w wr W : World} {a : Arc} {v : Value} {zs : List Arc} (h : RB w a wr v zs) (ha : Aft wr W) : RB w a W v zs := ⟨h.1.trans ha, h.2.1.below ha, (ha.block _ (heap_lt h.2.2)).trans h.2.2⟩
theorem RB.lay {w wr : World} {a : Arc} {v : Value} {zs : List Arc} (h : RB w a wr v zs) (o : Obj) : RB w a (wr.alloc o) v zs := h.aft (Aft.one o)
theorem RB.app {w wr W : World} {a : Arc} {v v' : Value} {zs zs' : List Arc} (h : RB w a wr v zs) (ho : OwnArc (w.heap.size + 1) W v' zs') (hg : wr.grownBy W v.ownBlock) : RB w a W v' zs' :=
  ⟨Below.grown h.1 hg h.1.size (fun q hq => by have := (h.2.1.base q hq).1; omega), ho, (hg.block _ (heap_lt h.2.2) (fun e => by have := (h.2.1.base _ e.symm).1; omega)).trans h.2.2⟩
theorem RB.sz {w wr : World} {a : Arc} {v : Value} {zs : List Arc} (h : RB w a wr v zs) : w.heap.size + 1 ≤ wr.heap.size := heap_lt h.2.2
theorem RB.ra {w wr : World} {a : Arc} {v : Value} {zs : List Arc} (h : RB w a wr v zs) : RA w wr v zs := ⟨h.1, ownA_less h.2.1 (by omega)⟩
theorem RB.start (w : World) (a : Arc) : RB w a (w.alloc (bxA a)) (.slice none 0 0) [] := ⟨Aft.one _, OwnArc.nil _ _, heap_alloc_at _ _ _ rfl⟩
/-- What a call that tells a new list of arcs leaves. -/
def ArcsP (zs : List Arc) (w : World) (e : Ending) (w' : World) : Prop := ∃ v, e = .returned v ∧ RA w w' v zs
/-- Whether two lists are one, walked together. -/
def sameA : List Arc → List Arc → Bool
  | x :: xs, y :: ys => if Arc.beq x y then sameA xs ys else false
  | _, _ => true
theorem sameA_iff : ∀ (xs ys : List Arc), xs.length = ys.length → (sameA xs ys = decide (xs = ys))
  | [], [], _ => by simp [sameA]
  | x :: xs, y :: ys, h => by
    unfold sameA
    by_cases e : x = y
    · subst e
      rw [if_pos (Arc.beq_self x), sameA_iff xs ys (by simpa using h)]
      simp
    · rw [if_neg (fun h => e ((Arc.beq_iff x y).1 h)), decide_eq_false (fun h => e (List.cons.inj h).1)]
  | [], _ :: _, h => by simp at h
  | _ :: _, [], h => by simp at h
def inA (xs : List Arc) (a : Arc) : Bool := xs.any (fun x => Arc.beq x a)
theorem inA_iff (xs : List Arc) (a : Arc) : inA xs a = decide (a ∈ xs) := by
  unfold inA
  rw [Bool.eq_iff_iff, List.any_eq_true, decide_eq_true_iff]
  constructor
  · rintro ⟨x, hx, he⟩
    exact (Arc.beq_iff x a).1 he ▸ hx
  · intro h
    exact ⟨a, h, Arc.beq_self a⟩
/-- A mask's bit, as the document asks for it. -/
def rbit (mask : Int) (k : Int) : Bool := !(bits .and .i64 mask (2 ^ k.toNat) == 0)
theorem getD_in {xs : List Arc} {k : Nat} (h : k < xs.length) : xs.getD k Arc.zero ∈ xs := by
  rw [List.getD_eq_getElem?_getD, List.getElem?_eq_getElem h]
  exact List.getElem_mem h
end Go.Proofs.YtakgepdlninnhaaDoor.Gr
namespace Go.Proofs.YtakgepdlninnhaaDoor.Gr
open Go.ChangeShapes Go.WideShapes Go.ChangeAt Go.RowKit Base F Rf
open Go.Proofs.YtakgepdlninnhaaDoor.Tx (Aft Aft.refl Aft.lay Aft.trans Aft.one Aft.cell Aft.drew BoolNew)
end Go.Proofs.YtakgepdlninnhaaDoor.Gr
