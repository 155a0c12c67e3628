/-
  Contracts of small functions, several texts laid into one. Not a statement of the seat.
-/
import Derived.Test.YtakgepdlninnhaaDoorHead5
import Derived.Deep.OwnRows
import Derived.RegionTactic
import Derived.BigRegion
import Derived.WalkKit
import Derived.ProofKit
import Derived.Laws.Externs
namespace Go.Proofs.YtakgepdlninnhaaDoor.Ro
open Go.ChangeShapes Go.WideShapes Go.ChangeAt Go.RowKit Base
theorem infoU : (Tryd.prog.info? 86).map (fun i => (i.zero, i.size, i.bytes)) = some (some (.int .u64 0), 1, 8) := by kernel_rfl
theorem sizeU (w : World) : (sizeOf 86).run Tryd.prog w = .ok 1 w := by kernel_rfl
/-- What Insert of one leaves. -/
def InsU (B i : Nat) (y xs : List Value) (n : Nat) (v : Value) (w : World) (e : Ending) (w' : World) : Prop :=
  ∃ v', e = .returned v' ∧ w'.ownsRow B 86 1 v' (n + 1) (xs.take (i * 1) ++ y ++ xs.drop (i * 1)) ∧ w.grownBy w' v.ownBlock ∧ (v'.ownBlock = v.ownBlock ∨ v'.ownBlock = some w.heap.size)
end Go.Proofs.YtakgepdlninnhaaDoor.Ro
namespace Go.Proofs.YtakgepdlninnhaaDoor.Ro
open Go.ChangeShapes Go.WideShapes Go.ChangeAt Go.RowKit Base
theorem zeroU (w : World) : (zeroValue 86).run Tryd.prog w = .ok (.int .u64 0) w := by kernel_rfl
/-- What Delete of one leaves. -/
def DelU (B i : Nat) (xs : List Value) (n : Nat) (v : Value) (w : World) (e : Ending) (w' : World) : Prop :=
  ∃ v', e = .returned v' ∧ w'.ownsRow B 86 1 v' (n - 1) (xs.take (i * 1) ++ xs.drop ((i + 1) * 1)) ∧ w.grownBy w' v.ownBlock ∧ v'.ownBlock = v.ownBlock
end Go.Proofs.YtakgepdlninnhaaDoor.Ro
namespace Go.Proofs.YtakgepdlninnhaaDoor.Ro
open Go.ChangeShapes Go.WideShapes Go.ChangeAt Go.RowKit Base
theorem infoB : (Tryd.prog.info? 72).map (fun i => (i.zero, i.size, i.bytes)) = some (some (.slice none 0 0), 1, 24) := by kernel_rfl
theorem sizeB (w : World) : (sizeOf 72).run Tryd.prog w = .ok 1 w := by kernel_rfl
/-- What Insert of one leaves. -/
def InsB (B i : Nat) (y xs : List Value) (n : Nat) (v : Value) (w : World) (e : Ending) (w' : World) : Prop :=
  ∃ v', e = .returned v' ∧ w'.ownsRow B 72 1 v' (n + 1) (xs.take (i * 1) ++ y ++ xs.drop (i * 1)) ∧ w.grownBy w' v.ownBlock ∧ (v'.ownBlock = v.ownBlock ∨ v'.ownBlock = some w.heap.size)
end Go.Proofs.YtakgepdlninnhaaDoor.Ro
namespace Go.Proofs.YtakgepdlninnhaaDoor.Ro
open Go.ChangeShapes Go.WideShapes Go.ChangeAt Go.RowKit Base
theorem zeroB (w : World) : (zeroValue 72).run Tryd.prog w = .ok (.slice none 0 0) w := by kernel_rfl
/-- What Delete of one leaves. -/
def DelB (B i : Nat) (xs : List Value) (n : Nat) (v : Value) (w : World) (e : Ending) (w' : World) : Prop :=
  ∃ v', e = .returned v' ∧ w'.ownsRow B 72 1 v' (n - 1) (xs.take (i * 1) ++ xs.drop ((i + 1) * 1)) ∧ w.grownBy w' v.ownBlock ∧ v'.ownBlock = v.ownBlock
end Go.Proofs.YtakgepdlninnhaaDoor.Ro
namespace Go.Proofs.YtakgepdlninnhaaDoor.Ro
open Go.ChangeShapes Go.WideShapes Go.ChangeAt Go.RowKit Base
end Go.Proofs.YtakgepdlninnhaaDoor.Ro
namespace Go.Proofs.YtakgepdlninnhaaDoor.Ro
open Go.ChangeShapes Go.WideShapes Go.ChangeAt Go.RowKit Base
end Go.Proofs.YtakgepdlninnhaaDoor.Ro
