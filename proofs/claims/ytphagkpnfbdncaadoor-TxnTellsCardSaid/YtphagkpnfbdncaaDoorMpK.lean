/-
  Keys of maps that are structs of ints. Not a statement of the seat.
-/
import Derived.Test.YtphagkpnfbdncaaDoorMp
import Derived.DeepKeys4
namespace Go.Proofs.YtphagkpnfbdncaaDoor.Mp
open Go.ChangeShapes Go.WideShapes Go.ChangeAt Go.RowKit Go.Maps Base
theorem laidOutK : laidOutB Tryd.prog = true := by kernel_rfl
theorem cellsI : Tryd.prog.cellsOf 3 = 1 := by kernel_rfl
theorem lits_int (d : Nat) (a : Int) (h : (Lit.int .i64 a).wf = true) : Tryd.prog.keyLits (d + 1) 3 [.int .i64 a] = some [.int .i64 a] := by
  unfold Program.keyLits
  rw [Tryd.underlying3]
  simp [h]
/-! a transaction's write -/
theorem keyedW : Keyed Tryd.prog 71 := Keyed.of_law (deep_law_laid laidOutK (m := 5) (by omega) (of_decide_eq_true (by kernel_rfl)) (by kernel_rfl) (by kernel_rfl))
theorem lits_w (d : Nat) (a b : Int) (ha : (Lit.int .i64 a).wf = true) (hb : (Lit.int .i64 b).wf = true) : Tryd.prog.keyLits (d + 2) 71 [.int .i64 a, .int .i64 b] = some [.int .i64 a, .int .i64 b] := by
  conv => lhs; unfold Program.keyLits
  rw [Tryd.underlying71]
  have hc : Tryd.prog.cellsOf 71 = 2 := by kernel_rfl
  simp only [hc]
  rw [if_pos (by constructor; rfl; kernel_rfl)]
  simp [cellsI, lits_int _ _ ha, lits_int _ _ hb]
theorem key_w (a b : Int) (ha : -9223372036854775808 ≤ a ∧ a ≤ 9223372036854775807) (hb : -9223372036854775808 ≤ b ∧ b ≤ 9223372036854775807) : ∃ kl, keyOf Tryd.prog 71 (.agg #[.int .i64 a, .int .i64 b]) = some kl := by
  obtain ⟨n, hn⟩ : ∃ n, Tryd.prog.types.size + 1 = n + 2 := ⟨Tryd.prog.types.size - 1, by have : 0 < Tryd.prog.types.size := of_decide_eq_true (by kernel_rfl); omega⟩
  refine ⟨.string (keyBytes [.int .i64 a, .int .i64 b]), ?_⟩
  unfold keyOf
  rw [Tryd.underlying71]
  simp only
  rw [if_pos (by kernel_rfl), hn]
  show (Tryd.prog.keyLits (n + 2) 71 [.int .i64 a, .int .i64 b]).map _ = _
  rw [lits_w n a b (WalkArith.wf_i64 ha) (WalkArith.wf_i64 hb)]
  rfl
/-! a version -/
theorem keyedV : Keyed Tryd.prog 46 := Keyed.of_law (deep_law_laid laidOutK (m := 5) (by omega) (of_decide_eq_true (by kernel_rfl)) (by kernel_rfl) (by kernel_rfl))
theorem lits_v (d : Nat) (a b c : Int) (ha : (Lit.int .i64 a).wf = true) (hb : (Lit.int .i64 b).wf = true) (hc0 : (Lit.int .i64 c).wf = true) : Tryd.prog.keyLits (d + 2) 46 [.int .i64 a, .int .i64 b, .int .i64 c] = some [.int .i64 a, .int .i64 b, .int .i64 c] := by
  conv => lhs; unfold Program.keyLits
  rw [Tryd.underlying46]
  have hc : Tryd.prog.cellsOf 46 = 3 := by kernel_rfl
  simp only [hc]
  rw [if_pos (by constructor; rfl; kernel_rfl)]
  simp [cellsI, lits_int _ _ ha, lits_int _ _ hb, lits_int _ _ hc0]
theorem key_v (a b c : Int) (ha : -9223372036854775808 ≤ a ∧ a ≤ 9223372036854775807) (hb : -9223372036854775808 ≤ b ∧ b ≤ 9223372036854775807) (hc0 : -9223372036854775808 ≤ c ∧ c ≤ 9223372036854775807) : ∃ kl, keyOf Tryd.prog 46 (.agg #[.int .i64 a, .int .i64 b, .int .i64 c]) = some kl := by
  obtain ⟨n, hn⟩ : ∃ n, Tryd.prog.types.size + 1 = n + 2 := ⟨Tryd.prog.types.size - 1, by have : 0 < Tryd.prog.types.size := of_decide_eq_true (by kernel_rfl); omega⟩
  refine ⟨.string (keyBytes [.int .i64 a, .int .i64 b, .int .i64 c]), ?_⟩
  unfold keyOf
  rw [Tryd.underlying46]
  simp only
  rw [if_pos (by kernel_rfl), hn]
  show (Tryd.prog.keyLits (n + 2) 46 [.int .i64 a, .int .i64 b, .int .i64 c]).map _ = _
  rw [lits_v n a b c (WalkArith.wf_i64 ha) (WalkArith.wf_i64 hb) (WalkArith.wf_i64 hc0)]
  rfl
end Go.Proofs.YtphagkpnfbdncaaDoor.Mp
