/-
  Arcs and their numbers. Not a statement of the seat.
-/
import Derived.Test.YtimgdkafennohaaGreatDoorDl1
import Derived.Test.YtimgdkafennohaaGreatDoorHead3
namespace Go.Proofs.YtimgdkafennohaaGreatDoor.Dl
open Go.ChangeShapes Go.WideShapes Go.ChangeAt Go.RowKit Base Ro F
/-- An arc's number. -/
def numI (f t k l : Int) : Int := f * 17179869184 + k * 4294967296 + l * 4096 + t
theorem num_bits (f t k l : Int) (f1 : 0 ≤ f) (f2 : f < 4096) (t1 : 0 ≤ t) (t2 : t < 4096) (k1 : 0 ≤ k) (k2 : k < 4) (l1 : 0 ≤ l) (l2 : l ≤ 1048575) :
    bits BinOp.or IntKind.u64 (bits BinOp.or IntKind.u64 (bits BinOp.or IntKind.u64 (f * 17179869184) (k * 4294967296)) (l * 4096)) t = numI f t k l := by
  rw [u64_join (f * 17179869184) (k * 4294967296) 34 (by omega) (by omega) (by omega) (by omega) (by omega) (by omega)]
  rw [u64_join _ (l * 4096) 32 (by omega) (by omega) (by omega) (by omega) (by omega) (by omega)]
  rw [u64_join _ t 12 (by omega) (by omega) (by omega) (by omega) (by omega) (by omega)]
  unfold numI
  omega
set_option maxHeartbeats 1000000 in
theorem number_any (f t k l : Int) (f1 : 0 ≤ f) (f2 : f < 4096) (t1 : 0 ≤ t) (t2 : t < 4096) (k1 : 0 ≤ k) (k2 : k < 4) (l1 : 0 ≤ l) (l2 : l ≤ 1048575) (w : World) : Calls Tryz.prog 37 #[.agg #[.int .i64 f, .int .i64 t, .int .i64 k, .int .i64 l]] w fun e w' => e = .returned (.int .u64 (numI f t k l)) ∧ Below w.heap.size w w' := by
  have HN := Lib.hid (num_bits f t k l f1 f2 t1 t2 k1 k2 l1 l2)
  go_enter Tryz.func37, Tryz.ntmps37
  go_wp2
  go_ret
  exact ⟨ret_int HN.out, by go_grown⟩
end Go.Proofs.YtimgdkafennohaaGreatDoor.Dl
