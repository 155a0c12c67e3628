/-
  Arcs and their numbers. Not a statement of the seat.
-/
import Derived.Test.YtakgepdlninnhaaDoorHead7
import Derived.Test.YtakgepdlninnhaaDoorHead2
namespace Go.Proofs.YtakgepdlninnhaaDoor.Dl
open Go.ChangeShapes Go.WideShapes Go.ChangeAt Go.RowKit Base Ro F
/-- An arc's number. -/
def numI (f t k l : Int) : Int := f * 17179869184 + k * 4294967296 + l * 4096 + t
theorem num_bits (f t k l : Int) (f1 : 0 ≤ f) (f2 : f < 4096) (t1 : 0 ≤ t) (t2 : t < 4096) (k1 : 0 ≤ k) (k2 : k < 4) (l1 : 0 ≤ l) (l2 : l ≤ 1048575) :
    bits BinOp.or IntKind.u64 (bits BinOp.or IntKind.u64 (bits BinOp.or IntKind.u64 (f * 17179869184) (k * 4294967296)) (l * 4096)) t = numI f t k l := by
  rw [u64_join (f * 17179869184) (k * 4294967296) 34 (by omega) (by omega) (by omega) (by omega) (by omega) (by omega)]
  rw [u64_join _ (l * 4096) 32 (by omega) (by omega) (by omega) (by omega) (by omega) (by omega)]
  rw [u64_join _ t 12 (by omega) (by omega) (by omega) (by omega) (by omega) (by omega)]
  unfold numI
  omega
end Go.Proofs.YtakgepdlninnhaaDoor.Dl
