/-
  Contracts of small functions, several texts laid into one. Not a statement of the seat.
-/
import Derived.Test.YtmgkpabagpgilaaMp
import Derived.DeepKeys4
namespace Go.Proofs.Ytmgkpabagpgilaa.Mp
open Go.ChangeShapes Go.WideShapes Go.ChangeAt Go.RowKit Go.Maps Base
theorem laidOutK : laidOutB Try.prog = true := by kernel_rfl
theorem cellsI : Try.prog.cellsOf 3 = 1 := by kernel_rfl
theorem lits_int (d : Nat) (a : Int) (h : (Lit.int .i64 a).wf = true) : Try.prog.keyLits (d + 1) 3 [.int .i64 a] = some [.int .i64 a] := by
  unfold Program.keyLits
  rw [Try.underlying3]
  simp [h]
/-! a transaction's write -/
theorem keyedW : Keyed Try.prog 114 := Keyed.of_law (deep_law_laid laidOutK (m := 5) (by omega) (of_decide_eq_true (by kernel_rfl)) (by kernel_rfl) (by kernel_rfl))
theorem lits_w (d : Nat) (a b : Int) (ha : (Lit.int .i64 a).wf = true) (hb : (Lit.int .i64 b).wf = true) : Try.prog.keyLits (d + 2) 114 [.int .i64 a, .int .i64 b] = some [.int .i64 a, .int .i64 b] := by
  conv => lhs; unfold Program.keyLits
  rw [Try.underlying114]
  have hc : Try.prog.cellsOf 114 = 2 := by kernel_rfl
  simp only [hc]
  rw [if_pos (by constructor; rfl; kernel_rfl)]
  simp [cellsI, lits_int _ _ ha, lits_int _ _ hb]
theorem key_w (a b : Int) (ha : -9223372036854775808 ≤ a ∧ a ≤ 9223372036854775807) (hb : -9223372036854775808 ≤ b ∧ b ≤ 9223372036854775807) : ∃ kl, keyOf Try.prog 114 (.agg #[.int .i64 a, .int .i64 b]) = some kl := by
  obtain ⟨n, hn⟩ : ∃ n, Try.prog.types.size + 1 = n + 2 := ⟨Try.prog.types.size - 1, by have : 0 < Try.prog.types.size := of_decide_eq_true (by kernel_rfl); omega⟩
  refine ⟨.string (keyBytes [.int .i64 a, .int .i64 b]), ?_⟩
  unfold keyOf
  rw [Try.underlying114]
  simp only
  rw [if_pos (by kernel_rfl), hn]
  show (Try.prog.keyLits (n + 2) 114 [.int .i64 a, .int .i64 b]).map _ = _
  rw [lits_w n a b (WalkArith.wf_i64 ha) (WalkArith.wf_i64 hb)]
  rfl
/-! a version -/
theorem keyedV : Keyed Try.prog 80 := Keyed.of_law (deep_law_laid laidOutK (m := 5) (by omega) (of_decide_eq_true (by kernel_rfl)) (by kernel_rfl) (by kernel_rfl))
theorem lits_v (d : Nat) (a b c : Int) (ha : (Lit.int .i64 a).wf = true) (hb : (Lit.int .i64 b).wf = true) (hc0 : (Lit.int .i64 c).wf = true) : Try.prog.keyLits (d + 2) 80 [.int .i64 a, .int .i64 b, .int .i64 c] = some [.int .i64 a, .int .i64 b, .int .i64 c] := by
  conv => lhs; unfold Program.keyLits
  rw [Try.underlying80]
  have hc : Try.prog.cellsOf 80 = 3 := by kernel_rfl
  simp only [hc]
  rw [if_pos (by constructor; rfl; kernel_rfl)]
  simp [cellsI, lits_int _ _ ha, lits_int _ _ hb, lits_int _ _ hc0]
theorem key_v (a b c : Int) (ha : -9223372036854775808 ≤ a ∧ a ≤ 9223372036854775807) (hb : -9223372036854775808 ≤ b ∧ b ≤ 9223372036854775807) (hc0 : -9223372036854775808 ≤ c ∧ c ≤ 9223372036854775807) : ∃ kl, keyOf Try.prog 80 (.agg #[.int .i64 a, .int .i64 b, .int .i64 c]) = some kl := by
  obtain ⟨n, hn⟩ : ∃ n, Try.prog.types.size + 1 = n + 2 := ⟨Try.prog.types.size - 1, by have : 0 < Try.prog.types.size := of_decide_eq_true (by kernel_rfl); omega⟩
  refine ⟨.string (keyBytes [.int .i64 a, .int .i64 b, .int .i64 c]), ?_⟩
  unfold keyOf
  rw [Try.underlying80]
  simp only
  rw [if_pos (by kernel_rfl), hn]
  show (Try.prog.keyLits (n + 2) 80 [.int .i64 a, .int .i64 b, .int .i64 c]).map _ = _
  rw [lits_v n a b c (WalkArith.wf_i64 ha) (WalkArith.wf_i64 hb) (WalkArith.wf_i64 hc0)]
  rfl
end Go.Proofs.Ytmgkpabagpgilaa.Mp
namespace Go.Proofs.Ytmgkpabagpgilaa.Mp
open Go.ChangeShapes Go.WideShapes Go.ChangeAt Go.RowKit Go.Maps Base
theorem laidOutH : laidOutB Try.prog = true := by kernel_rfl
theorem cellsIH : Try.prog.cellsOf 3 = 1 := by kernel_rfl
theorem lits_intH (d : Nat) (a : Int) (h : (Lit.int .i64 a).wf = true) : Try.prog.keyLits (d + 1) 3 [.int .i64 a] = some [.int .i64 a] := by
  unfold Program.keyLits
  rw [Try.underlying3]
  simp [h]
theorem keyedH : Keyed Try.prog 75 := Keyed.of_law (deep_law_laid laidOutH (m := 5) (by omega) (of_decide_eq_true (by kernel_rfl)) (by kernel_rfl) (by kernel_rfl))
theorem lits_h (d : Nat) (a b : Int) (ha : (Lit.int .i64 a).wf = true) (hb : (Lit.int .i64 b).wf = true) : Try.prog.keyLits (d + 2) 75 [.int .i64 a, .int .i64 b] = some [.int .i64 a, .int .i64 b] := by
  conv => lhs; unfold Program.keyLits
  rw [Try.underlying75]
  have hc : Try.prog.cellsOf 75 = 2 := by kernel_rfl
  simp only [hc]
  rw [if_pos (by constructor; rfl; kernel_rfl)]
  simp [cellsIH, lits_intH _ _ ha, lits_intH _ _ hb]
theorem key_h (a b : Int) (ha : -9223372036854775808 ≤ a ∧ a ≤ 9223372036854775807) (hb : -9223372036854775808 ≤ b ∧ b ≤ 9223372036854775807) : ∃ kl, keyOf Try.prog 75 (.agg #[.int .i64 a, .int .i64 b]) = some kl := by
  obtain ⟨n, hn⟩ : ∃ n, Try.prog.types.size + 1 = n + 2 := ⟨Try.prog.types.size - 1, by have : 0 < Try.prog.types.size := of_decide_eq_true (by kernel_rfl); omega⟩
  refine ⟨.string (keyBytes [.int .i64 a, .int .i64 b]), ?_⟩
  unfold keyOf
  rw [Try.underlying75]
  simp only
  rw [if_pos (by kernel_rfl), hn]
  show (Try.prog.keyLits (n + 2) 75 [.int .i64 a, .int .i64 b]).map _ = _
  rw [lits_h n a b (WalkArith.wf_i64 ha) (WalkArith.wf_i64 hb)]
  rfl
end Go.Proofs.Ytmgkpabagpgilaa.Mp
namespace Go.Proofs.Ytmgkpabagpgilaa.Mp
open Go.ChangeShapes Go.WideShapes Go.ChangeAt Go.RowKit Go.Maps Base
theorem laidOutA : laidOutB Try.prog = true := by kernel_rfl
theorem cellsIA : Try.prog.cellsOf 3 = 1 := by kernel_rfl
theorem lits_intA (d : Nat) (a : Int) (h : (Lit.int .i64 a).wf = true) : Try.prog.keyLits (d + 1) 3 [.int .i64 a] = some [.int .i64 a] := by
  unfold Program.keyLits
  rw [Try.underlying3]
  simp [h]
theorem keyedA : Keyed Try.prog 70 := Keyed.of_law (deep_law_laid laidOutA (m := 5) (by omega) (of_decide_eq_true (by kernel_rfl)) (by kernel_rfl) (by kernel_rfl))
theorem lits_a (d : Nat) (a b : Int) (ha : (Lit.int .i64 a).wf = true) (hb : (Lit.int .i64 b).wf = true) : Try.prog.keyLits (d + 2) 70 [.int .i64 a, .int .i64 b] = some [.int .i64 a, .int .i64 b] := by
  conv => lhs; unfold Program.keyLits
  rw [Try.underlying70]
  have hc : Try.prog.cellsOf 70 = 2 := by kernel_rfl
  simp only [hc]
  rw [if_pos (by rfl), show List.range 2 = [0, 1] from rfl]
  simp [cellsIA, lits_intA _ _ ha, lits_intA _ _ hb]
theorem key_a (a b : Int) (ha : -9223372036854775808 ≤ a ∧ a ≤ 9223372036854775807) (hb : -9223372036854775808 ≤ b ∧ b ≤ 9223372036854775807) : ∃ kl, keyOf Try.prog 70 (.agg #[.int .i64 a, .int .i64 b]) = some kl := by
  obtain ⟨n, hn⟩ : ∃ n, Try.prog.types.size + 1 = n + 2 := ⟨Try.prog.types.size - 1, by have : 0 < Try.prog.types.size := of_decide_eq_true (by kernel_rfl); omega⟩
  refine ⟨.string (keyBytes [.int .i64 a, .int .i64 b]), ?_⟩
  unfold keyOf
  rw [Try.underlying70]
  simp only
  rw [if_pos (by kernel_rfl), hn]
  show (Try.prog.keyLits (n + 2) 70 [.int .i64 a, .int .i64 b]).map _ = _
  rw [lits_a n a b (WalkArith.wf_i64 ha) (WalkArith.wf_i64 hb)]
  rfl
end Go.Proofs.Ytmgkpabagpgilaa.Mp
namespace Go.Proofs.Ytmgkpabagpgilaa.Mp
open Go.ChangeShapes Go.WideShapes Go.ChangeAt Go.RowKit Go.Maps Base
set_option maxRecDepth 100000 in
theorem lits_intA_inv {d : Nat} {c : Value} {ls : List Lit} (h : Try.prog.keyLits (d + 1) 3 [c] = some ls) : ∃ a, c = .int .i64 a ∧ (Lit.int .i64 a).wf = true := by
  unfold Program.keyLits at h
  rw [Try.underlying3] at h
  cases c <;> simp at h
  case int q n =>
    obtain ⟨⟨rfl, hw⟩, _⟩ := h
    exact ⟨_, rfl, hw⟩
set_option maxRecDepth 100000 in
theorem lits_a_inv {d : Nat} {cs : List Value} {ls : List Lit} (h : Try.prog.keyLits (d + 2) 70 cs = some ls) : ∃ a b, cs = [.int .i64 a, .int .i64 b] ∧ (Lit.int .i64 a).wf = true ∧ (Lit.int .i64 b).wf = true := by
  have hc : Try.prog.cellsOf 70 = 2 := by kernel_rfl
  have h0 : (if cs.length = 2 then ((List.range 2).mapM fun i => Try.prog.keyLits (d + 1) 3 ((cs.drop (i * 1)).take 1)).map List.flatten else none) = some ls := by
    rw [← h]
    conv => rhs; unfold Program.keyLits
    rw [Try.underlying70]
    simp only [hc, cellsIA]
  by_cases hl : cs.length = 2
  · match cs, hl with
    | [a, b], _ =>
      rw [if_pos (show [a, b].length = 2 from rfl), show List.range 2 = [0, 1] from rfl] at h0
      cases ha : Try.prog.keyLits (d + 1) 3 [a] with
      | none => simp [ha] at h0
      | some la =>
        cases hb : Try.prog.keyLits (d + 1) 3 [b] with
        | none => simp [ha, hb] at h0
        | some lb =>
          obtain ⟨x, rfl, hx⟩ := lits_intA_inv ha
          obtain ⟨y, rfl, hy⟩ := lits_intA_inv hb
          exact ⟨x, y, rfl, hx, hy⟩
  · rw [if_neg hl] at h0
    cases h0
set_option maxRecDepth 100000 in
theorem key_a_inv (v : Value) (kl : Lit) (h : keyOf Try.prog 70 v = some kl) : ∃ q : Int × Int, v = .agg #[.int .i64 q.1, .int .i64 q.2] := by
  obtain ⟨n, hn⟩ : ∃ n, Try.prog.types.size + 1 = n + 2 := ⟨Try.prog.types.size - 1, by have : 0 < Try.prog.types.size := of_decide_eq_true (by kernel_rfl); omega⟩
  unfold keyOf at h
  rw [Try.underlying70] at h
  simp only at h
  split at h
  · rw [hn] at h
    cases hk : Try.prog.keyLits (n + 2) 70 v.cells.toList with
    | none => rw [hk] at h; cases h
    | some ls =>
      obtain ⟨a, b, hcs, _, _⟩ := lits_a_inv hk
      cases v <;> simp [Value.cells] at hcs
      case agg cs =>
        refine ⟨(a, b), ?_⟩
        congr 1
        exact Array.ext' hcs
  · cases h
end Go.Proofs.Ytmgkpabagpgilaa.Mp
namespace Go.Proofs.Ytmgkpabagpgilaa.Mp
open Go.ChangeShapes Go.WideShapes Go.ChangeAt Go.RowKit Go.Maps Base
theorem laidOutE : laidOutB Try.prog = true := by kernel_rfl
theorem cellsIE : Try.prog.cellsOf 3 = 1 := by kernel_rfl
theorem lits_intE (d : Nat) (a : Int) (h : (Lit.int .i64 a).wf = true) : Try.prog.keyLits (d + 1) 3 [.int .i64 a] = some [.int .i64 a] := by
  unfold Program.keyLits
  rw [Try.underlying3]
  simp [h]
theorem keyedE : Keyed Try.prog 33 := Keyed.of_law (deep_law_laid laidOutE (m := 5) (by omega) (of_decide_eq_true (by kernel_rfl)) (by kernel_rfl) (by kernel_rfl))
theorem lits_e (d : Nat) (a b c e : Int) (ha : (Lit.int .i64 a).wf = true) (hb : (Lit.int .i64 b).wf = true) (hc0 : (Lit.int .i64 c).wf = true) (he : (Lit.int .i64 e).wf = true) : Try.prog.keyLits (d + 2) 33 [.int .i64 a, .int .i64 b, .int .i64 c, .int .i64 e] = some [.int .i64 a, .int .i64 b, .int .i64 c, .int .i64 e] := by
  conv => lhs; unfold Program.keyLits
  rw [Try.underlying33]
  have hc : Try.prog.cellsOf 33 = 4 := by kernel_rfl
  simp only [hc]
  rw [if_pos (by constructor; rfl; kernel_rfl)]
  simp [cellsIE, lits_intE _ _ ha, lits_intE _ _ hb, lits_intE _ _ hc0, lits_intE _ _ he]
theorem key_e (a b c e : Int) (ha : -9223372036854775808 ≤ a ∧ a ≤ 9223372036854775807) (hb : -9223372036854775808 ≤ b ∧ b ≤ 9223372036854775807) (hc0 : -9223372036854775808 ≤ c ∧ c ≤ 9223372036854775807) (he : -9223372036854775808 ≤ e ∧ e ≤ 9223372036854775807) : ∃ kl, keyOf Try.prog 33 (.agg #[.int .i64 a, .int .i64 b, .int .i64 c, .int .i64 e]) = some kl := by
  obtain ⟨n, hn⟩ : ∃ n, Try.prog.types.size + 1 = n + 2 := ⟨Try.prog.types.size - 1, by have : 0 < Try.prog.types.size := of_decide_eq_true (by kernel_rfl); omega⟩
  refine ⟨.string (keyBytes [.int .i64 a, .int .i64 b, .int .i64 c, .int .i64 e]), ?_⟩
  unfold keyOf
  rw [Try.underlying33]
  simp only
  rw [if_pos (by kernel_rfl), hn]
  show (Try.prog.keyLits (n + 2) 33 [.int .i64 a, .int .i64 b, .int .i64 c, .int .i64 e]).map _ = _
  rw [lits_e n a b c e (WalkArith.wf_i64 ha) (WalkArith.wf_i64 hb) (WalkArith.wf_i64 hc0) (WalkArith.wf_i64 he)]
  rfl
end Go.Proofs.Ytmgkpabagpgilaa.Mp
