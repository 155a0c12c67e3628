/-
  Edges, versions and their numbers, there and back: contracts that leave open which case it is. Not a statement of the seat.
-/
import Derived.Test.YtepfgaiidmbklaaPkLives
namespace Go.Proofs.Ytepfgaiidmbklaa.Pk
open Go.ChangeShapes Go.WideShapes Go.ChangeAt Go.RowKit Base Go.Shelf Go.Lib Go.Sort
theorem edge_some (f t k y : Int) : ∃ N er : Int, (∀ w, Calls Try.prog 8 #[.agg #[.int .i64 f, .int .i64 t, .int .i64 k, .int .i64 y]] w fun e w' => e = .returned (.tuple #[.int .u64 N, .int .i64 er]) ∧ Below w.heap.size w w') ∧ (eR f t k y = true ∧ N = eNum f t k y ∧ er = 0 ∨ er = 1) := by
  cases hR : eR f t k y
  · exact ⟨_, _, fun w => edge_bad f t k y w hR, .inr rfl⟩
  · exact ⟨_, _, fun w => edge_ok f t k y w hR, .inl ⟨rfl, rfl, rfl⟩⟩
theorem unedge_of (f t k y : Int) (hR : eR f t k y = true) (w : World) : Calls Try.prog 11 #[.int .u64 (eNum f t k y)] w fun e w' => e = .returned (.tuple #[.agg #[.int .i64 f, .int .i64 t, .int .i64 k, .int .i64 y], .int .i64 0]) ∧ Below w.heap.size w w' := by
  have hb := eR_iff.1 hR
  obtain ⟨x, hx⟩ : ∃ x, x = eNum f t k y := ⟨_, rfl⟩
  have h0 : 0 ≤ x := by rw [hx]; unfold eNum; omega
  have h1 : x < 4611686018427387904 := by rw [hx]; unfold eNum; omega
  have e1 : x / 4398046511104 % 1048576 = f := by rw [hx]; unfold eNum; omega
  have e2 : x % 1048576 = t := by rw [hx]; unfold eNum; omega
  have e3 : x / 1099511627776 % 4 = k := by rw [hx]; unfold eNum; omega
  have e4 : x / 1048576 % 1048576 = y := by rw [hx]; unfold eNum; omega
  rw [← hx]
  have h := unedge_ok x w h0 h1 (by rw [e1, e2, e3, e4]; exact hR)
  rwa [e1, e2, e3, e4] at h
theorem unedge_some (x : Int) (h0 : 0 ≤ x) (h1 : x ≤ 18446744073709551615) : ∃ f t k y er : Int, (∀ w, Calls Try.prog 11 #[.int .u64 x] w fun e w' => e = .returned (.tuple #[.agg #[.int .i64 f, .int .i64 t, .int .i64 k, .int .i64 y], .int .i64 er]) ∧ Below w.heap.size w w') ∧ (eR f t k y = true ∧ eNum f t k y = x ∧ er = 0 ∨ er = 5) := by
  by_cases hx : x < 4611686018427387904
  · cases hR : eR (x / 4398046511104 % 1048576) (x % 1048576) (x / 1099511627776 % 4) (x / 1048576 % 1048576)
    · exact ⟨_, _, _, _, _, fun w => unedge_bad x w h0 hx hR, .inr rfl⟩
    · exact ⟨_, _, _, _, _, fun w => unedge_ok x w h0 hx hR, .inl ⟨hR, by unfold eNum; omega, rfl⟩⟩
  · exact ⟨_, _, _, _, _, fun w => unedge_far x w h0 (by omega) h1, .inr rfl⟩
theorem version_some (t y n : Int) : ∃ N er : Int, (∀ w, Calls Try.prog 14 #[.agg #[.int .i64 t, .int .i64 y, .int .i64 n]] w fun e w' => e = .returned (.tuple #[.int .u64 N, .int .i64 er]) ∧ Below w.heap.size w w') ∧ (vR t y n = true ∧ N = vNum t y n ∧ er = 0 ∨ er = 1) := by
  cases hR : vR t y n
  · exact ⟨_, _, fun w => version_bad t y n w hR, .inr rfl⟩
  · exact ⟨_, _, fun w => version_ok t y n w hR, .inl ⟨rfl, rfl, rfl⟩⟩
theorem unversion_of (t y n : Int) (hR : vR t y n = true) (w : World) : Calls Try.prog 17 #[.int .u64 (vNum t y n)] w fun e w' => e = .returned (.tuple #[.agg #[.int .i64 t, .int .i64 y, .int .i64 n], .int .i64 0]) ∧ Below w.heap.size w w' := by
  have hb := vR_iff.1 hR
  obtain ⟨x, hx⟩ : ∃ x, x = vNum t y n := ⟨_, rfl⟩
  have h0 : 0 ≤ x := by rw [hx]; unfold vNum; omega
  have h1 : x < 4503599627370496 := by rw [hx]; unfold vNum; omega
  have e1 : x / 4294967296 % 1048576 = t := by rw [hx]; unfold vNum; omega
  have e2 : x / 4096 % 1048576 = y := by rw [hx]; unfold vNum; omega
  have e3 : x % 4096 = n := by rw [hx]; unfold vNum; omega
  rw [← hx]
  have h := unversion_ok x w h0 h1 (by rw [e1, e2, e3]; exact hR)
  rwa [e1, e2, e3] at h
theorem unversion_some (x : Int) (h0 : 0 ≤ x) (h1 : x ≤ 18446744073709551615) : ∃ t y n er : Int, (∀ w, Calls Try.prog 17 #[.int .u64 x] w fun e w' => e = .returned (.tuple #[.agg #[.int .i64 t, .int .i64 y, .int .i64 n], .int .i64 er]) ∧ Below w.heap.size w w') ∧ (vR t y n = true ∧ vNum t y n = x ∧ er = 0 ∨ er = 5) := by
  by_cases hx : x < 4503599627370496
  · cases hR : vR (x / 4294967296 % 1048576) (x / 4096 % 1048576) (x % 4096)
    · exact ⟨_, _, _, _, fun w => unversion_bad x w h0 hx hR, .inr rfl⟩
    · exact ⟨_, _, _, _, fun w => unversion_ok x w h0 hx hR, .inl ⟨hR, by unfold vNum; omega, rfl⟩⟩
  · exact ⟨_, _, _, _, fun w => unversion_far x w h0 (by omega) h1, .inr rfl⟩
theorem less_num (f t k y f' t' k' y' : Int) (h : eR f t k y = true) (h' : eR f' t' k' y' = true) (w : World) : Calls Try.prog 22 #[.agg #[.int .i64 f, .int .i64 t, .int .i64 k, .int .i64 y], .agg #[.int .i64 f', .int .i64 t', .int .i64 k', .int .i64 y']] w fun e w' => e = .returned (.bool (decide (eNum f t k y < eNum f' t' k' y'))) ∧ Below w.heap.size w w' := by
  have hb := eR_iff.1 h
  have hb' := eR_iff.1 h'
  have e1 : ltE (f, t, k, y) (f', t', k', y') = decide (eNum f t k y < eNum f' t' k' y') := by
    unfold ltE eNum
    rw [Bool.eq_iff_iff, decide_eq_true_iff, decide_eq_true_iff]
    dsimp only
    omega
  have hl := less_any (f, t, k, y) (f', t', k', y') w
  rw [e1] at hl
  exact hl.mono fun _ _ hh => ⟨hh.1, hh.2.below⟩
theorem eq_num (f t k y f' t' k' y' : Int) (h : eR f t k y = true) (h' : eR f' t' k' y' = true) (w : World) : (binOp .eql 23 (.agg #[.int .i64 f, .int .i64 t, .int .i64 k, .int .i64 y]) (.agg #[.int .i64 f', .int .i64 t', .int .i64 k', .int .i64 y'])).run Try.prog w = .ok (.bool (eNum f t k y == eNum f' t' k' y')) w := by
  have hb := eR_iff.1 h
  have hb' := eR_iff.1 h'
  have e1 : decide (((f, t, k, y) : E) = (f', t', k', y')) = (eNum f t k y == eNum f' t' k' y') := by
    rw [Bool.eq_iff_iff, decide_eq_true_iff, beq_iff_eq]
    simp only [Prod.mk.injEq]
    unfold eNum
    omega
  have hq := eqE (f, t, k, y) (f', t', k', y') w
  rw [e1] at hq
  exact hq
theorem neV (a b c : Int) (w : World) : (binOp .neq 37 (.agg #[.int .i64 a, .int .i64 b, .int .i64 c]) (.agg #[.int .i64 a, .int .i64 b, .int .i64 c])).run Try.prog w = .ok (.bool false) w := by
  have u3 := Try.underlying3
  have a3 := Try.isAgg3
  have z3 := Try.sizeOf3
  have hS : Try.prog.underlying 37 = some (.struct (Try.prog.fieldsOf 37)) := by kernel_rfl
  have hp : Try.prog.stoodInHeld 37 = false := by kernel_rfl
  rw [run_neq_struct, show (10000 : Nat) = 9999 + 1 from rfl, run_equalIn_agg w 9999 37 _ _ hS hp]
  simp only [Program.fieldsOf, Try.underlying37]
  go_simp
end Go.Proofs.Ytepfgaiidmbklaa.Pk
