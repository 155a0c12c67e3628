/-
  Contracts of small functions, several texts laid into one. Not a statement of the seat.
-/
import Derived.Test.YtimgdkafennohaaHead16
import Derived.Deep.DeepCutAuto
namespace Go.Proofs.Ytimgdkafennohaa.Gr
open Go.ChangeShapes Go.WideShapes Go.ChangeAt Go.RowKit Base F Rf
open Go.Proofs.Ytimgdkafennohaa.Tx (Aft Aft.refl Aft.lay Aft.trans Aft.one Aft.cell Aft.drew BoolNew)
def lessA (x y : Arc) : Bool := if x.fr = y.fr then (if x.kd = y.kd then (if x.lb = y.lb then decide (x.to < y.to) else decide (x.lb < y.lb)) else decide (x.kd < y.kd)) else decide (x.fr < y.fr)
/-- An arc that is right where there are n nodes, as the document asks. -/
def rightO (n : Nat) (x : Arc) : Prop := (0 ≤ x.fr ∧ x.fr < (n : Int)) ∧ (0 ≤ x.to ∧ x.to < (n : Int)) ∧ (1 ≤ x.kd ∧ x.kd ≤ 3) ∧ 0 ≤ x.lb ∧ x.lb ≤ 1048575
instance (n : Nat) (x : Arc) : Decidable (rightO n x) := by unfold rightO; exact inferInstance
/-- What the document's Put makes, from a place on: one more was put, or not. -/
def goA (a : Arc) (b : Bool) : List Arc → List Arc
  | [] => if b then [] else [a]
  | x :: l => (if b || lessA x a then [] else [a]) ++ ((if Arc.beq x a then [] else [x]) ++ goA a (b || !lessA x a) l)
end Go.Proofs.Ytimgdkafennohaa.Gr
namespace Go.Proofs.Ytimgdkafennohaa.Gr
open Go.ChangeShapes Go.WideShapes Go.ChangeAt Go.RowKit Base F Rf Lst
open Go.Proofs.Ytimgdkafennohaa.Tx (Aft Aft.refl Aft.lay Aft.trans Aft.one Aft.cell Aft.drew BoolNew)
theorem ownI_less {B B' : Nat} {w : World} {v : Value} {zs : List Int} (h : OwnI B w v zs) (hb : B' ≤ B) : OwnI B' w v zs := by
  refine ⟨h.1, ?_⟩
  rcases h.2 with h2 | ⟨g, cap, cur, h1, h2, h3⟩
  · exact .inl h2
  · exact .inr ⟨g, cap, cur, h1, Nat.le_trans hb h2, h3⟩
/-- The nodes on a side of one, as the document tells them. -/
def sideO (xs : List Arc) (node : Int) (back : Bool) : List Int := if back then keysL ((xs.filter fun x => x.to == node).map fun x => x.fr) else keysL ((xs.filter fun x => x.fr == node).map fun x => x.to)
end Go.Proofs.Ytimgdkafennohaa.Gr
