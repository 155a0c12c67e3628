/-
  Keys of maps that are structs of ints. Not a statement of the seat.
-/
import Derived.Test.YtaogofjnpnheeaaGreatDoorMp
import Derived.DeepKeys4
namespace Go.Proofs.YtaogofjnpnheeaaGreatDoor.Mp
open Go.ChangeShapes Go.WideShapes Go.ChangeAt Go.RowKit Go.Maps Base
theorem laidOutK : laidOutB Tryz.prog = true := by kernel_rfl
theorem cellsI : Tryz.prog.cellsOf 3 = 1 := by kernel_rfl
theorem lits_int (d : Nat) (a : Int) (h : (Lit.int .i64 a).wf = true) : Tryz.prog.keyLits (d + 1) 3 [.int .i64 a] = some [.int .i64 a] := by
  unfold Program.keyLits
  rw [Tryz.underlying3]
  simp [h]
/-! a transaction's write -/
theorem keyedW : Keyed Tryz.prog 67 := Keyed.of_law (deep_law_laid laidOutK (m := 5) (by omega) (of_decide_eq_true (by kernel_rfl)) (by kernel_rfl) (by kernel_rfl))
theorem lits_w (d : Nat) (a b : Int) (ha : (Lit.int .i64 a).wf = true) (hb : (Lit.int .i64 b).wf = true) : Tryz.prog.keyLits (d + 2) 67 [.int .i64 a, .int .i64 b] = some [.int .i64 a, .int .i64 b] := by
  conv => lhs; unfold Program.keyLits
  rw [Tryz.underlying67]
  have hc : Tryz.prog.cellsOf 67 = 2 := by kernel_rfl
  simp only [hc]
  rw [if_pos (by constructor; rfl; kernel_rfl)]
  simp [cellsI, lits_int _ _ ha, lits_int _ _ hb]
theorem key_w (a b : Int) (ha : -9223372036854775808 ≤ a ∧ a ≤ 9223372036854775807) (hb : -9223372036854775808 ≤ b ∧ b ≤ 9223372036854775807) : ∃ kl, keyOf Tryz.prog 67 (.agg #[.int .i64 a, .int .i64 b]) = some kl := by
  obtain ⟨n, hn⟩ : ∃ n, Tryz.prog.types.size + 1 = n + 2 := ⟨Tryz.prog.types.size - 1, by have : 0 < Tryz.prog.types.size := of_decide_eq_true (by kernel_rfl); omega⟩
  refine ⟨.string (keyBytes [.int .i64 a, .int .i64 b]), ?_⟩
  unfold keyOf
  rw [Tryz.underlying67]
  simp only
  rw [if_pos (by kernel_rfl), hn]
  show (Tryz.prog.keyLits (n + 2) 67 [.int .i64 a, .int .i64 b]).map _ = _
  rw [lits_w n a b (WalkArith.wf_i64 ha) (WalkArith.wf_i64 hb)]
  rfl
/-! a version -/
theorem keyedV : Keyed Tryz.prog 42 := Keyed.of_law (deep_law_laid laidOutK (m := 5) (by omega) (of_decide_eq_true (by kernel_rfl)) (by kernel_rfl) (by kernel_rfl))
theorem lits_v (d : Nat) (a b c : Int) (ha : (Lit.int .i64 a).wf = true) (hb : (Lit.int .i64 b).wf = true) (hc0 : (Lit.int .i64 c).wf = true) : Tryz.prog.keyLits (d + 2) 42 [.int .i64 a, .int .i64 b, .int .i64 c] = some [.int .i64 a, .int .i64 b, .int .i64 c] := by
  conv => lhs; unfold Program.keyLits
  rw [Tryz.underlying42]
  have hc : Tryz.prog.cellsOf 42 = 3 := by kernel_rfl
  simp only [hc]
  rw [if_pos (by constructor; rfl; kernel_rfl)]
  simp [cellsI, lits_int _ _ ha, lits_int _ _ hb, lits_int _ _ hc0]
theorem key_v (a b c : Int) (ha : -9223372036854775808 ≤ a ∧ a ≤ 9223372036854775807) (hb : -9223372036854775808 ≤ b ∧ b ≤ 9223372036854775807) (hc0 : -9223372036854775808 ≤ c ∧ c ≤ 9223372036854775807) : ∃ kl, keyOf Tryz.prog 42 (.agg #[.int .i64 a, .int .i64 b, .int .i64 c]) = some kl := by
  obtain ⟨n, hn⟩ : ∃ n, Tryz.prog.types.size + 1 = n + 2 := ⟨Tryz.prog.types.size - 1, by have : 0 < Tryz.prog.types.size := of_decide_eq_true (by kernel_rfl); omega⟩
  refine ⟨.string (keyBytes [.int .i64 a, .int .i64 b, .int .i64 c]), ?_⟩
  unfold keyOf
  rw [Tryz.underlying42]
  simp only
  rw [if_pos (by kernel_rfl), hn]
  show (Tryz.prog.keyLits (n + 2) 42 [.int .i64 a, .int .i64 b, .int .i64 c]).map _ = _
  rw [lits_v n a b c (WalkArith.wf_i64 ha) (WalkArith.wf_i64 hb) (WalkArith.wf_i64 hc0)]
  rfl
end Go.Proofs.YtaogofjnpnheeaaGreatDoor.Mp
