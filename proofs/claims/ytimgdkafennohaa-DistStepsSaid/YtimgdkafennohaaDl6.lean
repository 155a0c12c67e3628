/-
  Arcs and their numbers. Not a statement of the seat.
-/
import Derived.Test.YtimgdkafennohaaDl1
import Derived.Test.YtimgdkafennohaaHead3
namespace Go.Proofs.Ytimgdkafennohaa.Dl
open Go.ChangeShapes Go.WideShapes Go.ChangeAt Go.RowKit Base Ro F
/-- An arc's number. -/
def numI (f t k l : Int) : Int := f * 17179869184 + k * 4294967296 + l * 4096 + t
theorem num_bits (f t k l : Int) (f1 : 0 ≤ f) (f2 : f < 4096) (t1 : 0 ≤ t) (t2 : t < 4096) (k1 : 0 ≤ k) (k2 : k < 4) (l1 : 0 ≤ l) (l2 : l ≤ 1048575) :
    bits BinOp.or IntKind.u64 (bits BinOp.or IntKind.u64 (bits BinOp.or IntKind.u64 (f * 17179869184) (k * 4294967296)) (l * 4096)) t = numI f t k l := by
  rw [u64_join (f * 17179869184) (k * 4294967296) 34 (by omega) (by omega) (by omega) (by omega) (by omega) (by omega)]
  rw [u64_join _ (l * 4096) 32 (by omega) (by omega) (by omega) (by omega) (by omega) (by omega)]
  rw [u64_join _ t 12 (by omega) (by omega) (by omega) (by omega) (by omega) (by omega)]
  unfold numI
  omega
set_option maxHeartbeats 1000000 in
theorem number_any (f t k l : Int) (f1 : 0 ≤ f) (f2 : f < 4096) (t1 : 0 ≤ t) (t2 : t < 4096) (k1 : 0 ≤ k) (k2 : k < 4) (l1 : 0 ≤ l) (l2 : l ≤ 1048575) (w : World) : Calls Try.prog 21 #[.agg #[.int .i64 f, .int .i64 t, .int .i64 k, .int .i64 l]] w fun e w' => e = .returned (.int .u64 (numI f t k l)) ∧ Below w.heap.size w w' := by
  have HN := Lib.hid (num_bits f t k l f1 f2 t1 t2 k1 k2 l1 l2)
  go_enter Try.func21, Try.ntmps21
  go_wp2
  go_ret
  exact ⟨ret_int HN.out, by go_grown⟩
set_option maxHeartbeats 1000000 in
theorem arc_any (f t k l : Int) (f1 : 0 ≤ f) (f2 : f < 4096) (t1 : 0 ≤ t) (t2 : t < 4096) (k1 : 0 ≤ k) (k2 : k < 4) (l1 : 0 ≤ l) (l2 : l ≤ 1048575) (w : World) : Calls Try.prog 46 #[.int .u64 (numI f t k l)] w fun e w' => e = .returned (.agg #[.int .i64 f, .int .i64 t, .int .i64 k, .int .i64 l]) ∧ Below w.heap.size w w' := by
  have e1 : numI f t k l / 17179869184 = f := by unfold numI; omega
  have m2 := u64_mask (numI f t k l) 12 4095 rfl (by omega) (by unfold numI; omega) (by unfold numI; omega)
  have e2 : bits .and .u64 (numI f t k l) 4095 = t := by rw [show ((4095 : Nat) : Int) = 4095 from rfl] at m2; rw [m2]; unfold numI; omega
  have m3 := u64_mask (numI f t k l / 4294967296) 2 3 rfl (by omega) (by unfold numI; omega) (by unfold numI; omega)
  have e3 : bits .and .u64 (numI f t k l / 4294967296) 3 = k := by rw [show ((3 : Nat) : Int) = 3 from rfl] at m3; rw [m3]; unfold numI; omega
  have m4 := u64_mask (numI f t k l / 4096) 20 1048575 rfl (by omega) (by unfold numI; omega) (by unfold numI; omega)
  have e4 : bits .and .u64 (numI f t k l / 4096) 1048575 = l := by rw [show ((1048575 : Nat) : Int) = 1048575 from rfl] at m4; rw [m4]; unfold numI; omega
  clear m2 m3 m4
  generalize numI f t k l = x at e1 e2 e3 e4 ⊢
  have hw1 : IntKind.i64.wrap f = f := by rw [IntKind.wrap_i64]; omega
  have hw2 : IntKind.i64.wrap t = t := by rw [IntKind.wrap_i64]; omega
  have hw3 : IntKind.i64.wrap k = k := by rw [IntKind.wrap_i64]; omega
  have hw4 : IntKind.i64.wrap l = l := by rw [IntKind.wrap_i64]; omega
  clear f1 f2 t1 t2 k1 k2 l1 l2
  go_enter Try.func46, Try.ntmps46
  go_wp2
  exact bodyPost_ret (results_cell_row Try.results46 _ _ w.heap.size _ _ _ _ rfl (heap_alloc_at _ _ _ rfl) Try.underlying32 rfl (by kernel_rfl)) rfl ⟨rfl, by go_grown⟩
end Go.Proofs.Ytimgdkafennohaa.Dl
