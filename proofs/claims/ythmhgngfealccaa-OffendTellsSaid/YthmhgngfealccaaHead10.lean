/-
  Contracts of small functions, several texts laid into one. Not a statement of the seat.
-/
import Derived.Test.YthmhgngfealccaaMp
import Derived.DeepKeys4
namespace Go.Proofs.Ythmhgngfealccaa.Mp
open Go.ChangeShapes Go.WideShapes Go.ChangeAt Go.RowKit Go.Maps Base
theorem laidOutH : laidOutB Try.prog = true := by kernel_rfl
theorem cellsIH : Try.prog.cellsOf 3 = 1 := by kernel_rfl
theorem lits_intH (d : Nat) (a : Int) (h : (Lit.int .i64 a).wf = true) : Try.prog.keyLits (d + 1) 3 [.int .i64 a] = some [.int .i64 a] := by
  unfold Program.keyLits
  rw [Try.underlying3]
  simp [h]
theorem keyedH : Keyed Try.prog 94 := Keyed.of_law (deep_law_laid laidOutH (m := 5) (by omega) (of_decide_eq_true (by kernel_rfl)) (by kernel_rfl) (by kernel_rfl))
theorem lits_h (d : Nat) (a b : Int) (ha : (Lit.int .i64 a).wf = true) (hb : (Lit.int .i64 b).wf = true) : Try.prog.keyLits (d + 2) 94 [.int .i64 a, .int .i64 b] = some [.int .i64 a, .int .i64 b] := by
  conv => lhs; unfold Program.keyLits
  rw [Try.underlying94]
  have hc : Try.prog.cellsOf 94 = 2 := by kernel_rfl
  simp only [hc]
  rw [if_pos (by constructor; rfl; kernel_rfl)]
  simp [cellsIH, lits_intH _ _ ha, lits_intH _ _ hb]
theorem key_h (a b : Int) (ha : -9223372036854775808 ≤ a ∧ a ≤ 9223372036854775807) (hb : -9223372036854775808 ≤ b ∧ b ≤ 9223372036854775807) : ∃ kl, keyOf Try.prog 94 (.agg #[.int .i64 a, .int .i64 b]) = some kl := by
  obtain ⟨n, hn⟩ : ∃ n, Try.prog.types.size + 1 = n + 2 := ⟨Try.prog.types.size - 1, by have : 0 < Try.prog.types.size := of_decide_eq_true (by kernel_rfl); omega⟩
  refine ⟨.string (keyBytes [.int .i64 a, .int .i64 b]), ?_⟩
  unfold keyOf
  rw [Try.underlying94]
  simp only
  rw [if_pos (by kernel_rfl), hn]
  show (Try.prog.keyLits (n + 2) 94 [.int .i64 a, .int .i64 b]).map _ = _
  rw [lits_h n a b (WalkArith.wf_i64 ha) (WalkArith.wf_i64 hb)]
  rfl
end Go.Proofs.Ythmhgngfealccaa.Mp
namespace Go.Proofs.Ythmhgngfealccaa.Mp
open Go.ChangeShapes Go.WideShapes Go.ChangeAt Go.RowKit Go.Maps Base
theorem laidOutA : laidOutB Try.prog = true := by kernel_rfl
theorem cellsIA : Try.prog.cellsOf 3 = 1 := by kernel_rfl
theorem lits_intA (d : Nat) (a : Int) (h : (Lit.int .i64 a).wf = true) : Try.prog.keyLits (d + 1) 3 [.int .i64 a] = some [.int .i64 a] := by
  unfold Program.keyLits
  rw [Try.underlying3]
  simp [h]
theorem keyedA : Keyed Try.prog 84 := Keyed.of_law (deep_law_laid laidOutA (m := 5) (by omega) (of_decide_eq_true (by kernel_rfl)) (by kernel_rfl) (by kernel_rfl))
theorem lits_a (d : Nat) (a b : Int) (ha : (Lit.int .i64 a).wf = true) (hb : (Lit.int .i64 b).wf = true) : Try.prog.keyLits (d + 2) 84 [.int .i64 a, .int .i64 b] = some [.int .i64 a, .int .i64 b] := by
  conv => lhs; unfold Program.keyLits
  rw [Try.underlying84]
  have hc : Try.prog.cellsOf 84 = 2 := by kernel_rfl
  simp only [hc]
  rw [if_pos (by rfl), show List.range 2 = [0, 1] from rfl]
  simp [cellsIA, lits_intA _ _ ha, lits_intA _ _ hb]
theorem key_a (a b : Int) (ha : -9223372036854775808 ≤ a ∧ a ≤ 9223372036854775807) (hb : -9223372036854775808 ≤ b ∧ b ≤ 9223372036854775807) : ∃ kl, keyOf Try.prog 84 (.agg #[.int .i64 a, .int .i64 b]) = some kl := by
  obtain ⟨n, hn⟩ : ∃ n, Try.prog.types.size + 1 = n + 2 := ⟨Try.prog.types.size - 1, by have : 0 < Try.prog.types.size := of_decide_eq_true (by kernel_rfl); omega⟩
  refine ⟨.string (keyBytes [.int .i64 a, .int .i64 b]), ?_⟩
  unfold keyOf
  rw [Try.underlying84]
  simp only
  rw [if_pos (by kernel_rfl), hn]
  show (Try.prog.keyLits (n + 2) 84 [.int .i64 a, .int .i64 b]).map _ = _
  rw [lits_a n a b (WalkArith.wf_i64 ha) (WalkArith.wf_i64 hb)]
  rfl
end Go.Proofs.Ythmhgngfealccaa.Mp
namespace Go.Proofs.Ythmhgngfealccaa.Mp
open Go.ChangeShapes Go.WideShapes Go.ChangeAt Go.RowKit Go.Maps Base
theorem laidOutK : laidOutB Try.prog = true := by kernel_rfl
theorem cellsI : Try.prog.cellsOf 3 = 1 := by kernel_rfl
theorem lits_int (d : Nat) (a : Int) (h : (Lit.int .i64 a).wf = true) : Try.prog.keyLits (d + 1) 3 [.int .i64 a] = some [.int .i64 a] := by
  unfold Program.keyLits
  rw [Try.underlying3]
  simp [h]
/-! a transaction's write -/
theorem keyedW : Keyed Try.prog 116 := Keyed.of_law (deep_law_laid laidOutK (m := 5) (by omega) (of_decide_eq_true (by kernel_rfl)) (by kernel_rfl) (by kernel_rfl))
theorem lits_w (d : Nat) (a b : Int) (ha : (Lit.int .i64 a).wf = true) (hb : (Lit.int .i64 b).wf = true) : Try.prog.keyLits (d + 2) 116 [.int .i64 a, .int .i64 b] = some [.int .i64 a, .int .i64 b] := by
  conv => lhs; unfold Program.keyLits
  rw [Try.underlying116]
  have hc : Try.prog.cellsOf 116 = 2 := by kernel_rfl
  simp only [hc]
  rw [if_pos (by constructor; rfl; kernel_rfl)]
  simp [cellsI, lits_int _ _ ha, lits_int _ _ hb]
theorem key_w (a b : Int) (ha : -9223372036854775808 ≤ a ∧ a ≤ 9223372036854775807) (hb : -9223372036854775808 ≤ b ∧ b ≤ 9223372036854775807) : ∃ kl, keyOf Try.prog 116 (.agg #[.int .i64 a, .int .i64 b]) = some kl := by
  obtain ⟨n, hn⟩ : ∃ n, Try.prog.types.size + 1 = n + 2 := ⟨Try.prog.types.size - 1, by have : 0 < Try.prog.types.size := of_decide_eq_true (by kernel_rfl); omega⟩
  refine ⟨.string (keyBytes [.int .i64 a, .int .i64 b]), ?_⟩
  unfold keyOf
  rw [Try.underlying116]
  simp only
  rw [if_pos (by kernel_rfl), hn]
  show (Try.prog.keyLits (n + 2) 116 [.int .i64 a, .int .i64 b]).map _ = _
  rw [lits_w n a b (WalkArith.wf_i64 ha) (WalkArith.wf_i64 hb)]
  rfl
/-! a version -/
theorem keyedV : Keyed Try.prog 27 := Keyed.of_law (deep_law_laid laidOutK (m := 5) (by omega) (of_decide_eq_true (by kernel_rfl)) (by kernel_rfl) (by kernel_rfl))
theorem lits_v (d : Nat) (a b c : Int) (ha : (Lit.int .i64 a).wf = true) (hb : (Lit.int .i64 b).wf = true) (hc0 : (Lit.int .i64 c).wf = true) : Try.prog.keyLits (d + 2) 27 [.int .i64 a, .int .i64 b, .int .i64 c] = some [.int .i64 a, .int .i64 b, .int .i64 c] := by
  conv => lhs; unfold Program.keyLits
  rw [Try.underlying27]
  have hc : Try.prog.cellsOf 27 = 3 := by kernel_rfl
  simp only [hc]
  rw [if_pos (by constructor; rfl; kernel_rfl)]
  simp [cellsI, lits_int _ _ ha, lits_int _ _ hb, lits_int _ _ hc0]
theorem key_v (a b c : Int) (ha : -9223372036854775808 ≤ a ∧ a ≤ 9223372036854775807) (hb : -9223372036854775808 ≤ b ∧ b ≤ 9223372036854775807) (hc0 : -9223372036854775808 ≤ c ∧ c ≤ 9223372036854775807) : ∃ kl, keyOf Try.prog 27 (.agg #[.int .i64 a, .int .i64 b, .int .i64 c]) = some kl := by
  obtain ⟨n, hn⟩ : ∃ n, Try.prog.types.size + 1 = n + 2 := ⟨Try.prog.types.size - 1, by have : 0 < Try.prog.types.size := of_decide_eq_true (by kernel_rfl); omega⟩
  refine ⟨.string (keyBytes [.int .i64 a, .int .i64 b, .int .i64 c]), ?_⟩
  unfold keyOf
  rw [Try.underlying27]
  simp only
  rw [if_pos (by kernel_rfl), hn]
  show (Try.prog.keyLits (n + 2) 27 [.int .i64 a, .int .i64 b, .int .i64 c]).map _ = _
  rw [lits_v n a b c (WalkArith.wf_i64 ha) (WalkArith.wf_i64 hb) (WalkArith.wf_i64 hc0)]
  rfl
end Go.Proofs.Ythmhgngfealccaa.Mp
