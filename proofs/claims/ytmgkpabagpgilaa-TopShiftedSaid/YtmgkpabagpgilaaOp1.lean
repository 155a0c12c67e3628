/-
  Contracts of the program's operations: Of, Right, Text; and the document's. Not a statement of the seat.
-/
import Derived.Test.YtmgkpabagpgilaaOpDef
import Derived.Test.YtmgkpabagpgilaaHead1
import Derived.Lib.QuietBelow
namespace Go.Proofs.Ytmgkpabagpgilaa.Op
open Go.ChangeShapes Go.WideShapes Go.ChangeAt Go.RowKit Base Nu Pk F Go.Lib
theorem bel1 {w w' : World} {o : Obj} (h : Below (w.alloc o).heap.size (w.alloc o) w') : Below w.heap.size w w' := ((Below.refl _ _).alloc (Nat.le_refl _) _).trans (h.mono (by simp))
set_option maxRecDepth 100000 in
theorem of_r (k t n : Int) (w : World) : Calls Try.prog 46 #[.agg #[.bool true, .int .i64 k, .int .i64 t, .int .i64 n]] w fun e w' => e = .returned (.agg #[.int .i64 t, .int .i64 k, .int .i64 n]) ∧ Below w.heap.size w w' := by
  go_enter Try.func46, Try.ntmps46
  go_wp2
  refine bodyPost_ret (v := .agg #[.int .i64 t, .int .i64 k, .int .i64 n]) (by simp [results, Try.results46, go_sem]) rfl ⟨rfl, ?_⟩
  go_grown
set_option maxRecDepth 100000 in
theorem of_w (k t n : Int) (w : World) : Calls Try.prog 46 #[.agg #[.bool false, .int .i64 k, .int .i64 t, .int .i64 n]] w fun e w' => e = .returned (.agg #[.int .i64 0, .int .i64 0, .int .i64 0]) ∧ Below w.heap.size w w' := by
  go_enter Try.func46, Try.ntmps46
  go_wp2
  refine bodyPost_ret (v := .agg #[.int .i64 0, .int .i64 0, .int .i64 0]) (by simp [results, Try.results46, go_sem]) rfl ⟨rfl, ?_⟩
  go_grown
theorem rightO_r (k t n : Int) : rightO ⟨true, k, t, n⟩ = vR t k n := rfl
theorem rightO_w (k t n : Int) : rightO ⟨false, k, t, n⟩ = decide (1 ≤ k ∧ k ≤ 1048575 ∧ t = 0 ∧ n = 0) := rfl
set_option maxHeartbeats 1000000 in
set_option maxRecDepth 100000 in
theorem right_ok (x : Opr) (w : World) (h : rightO x = true) : Calls Try.prog 41 #[.agg #[.bool x.rd, .int .i64 x.k, .int .i64 x.t, .int .i64 x.n]] w fun e w' => e = .returned (.int .i64 0) ∧ Below w.heap.size w w' := by
  obtain ⟨rd, k, t, n⟩ := x
  cases rd with
  | true =>
    rw [rightO_r] at h
    have H1 := Lib.hid (fun w => of_r k t n w)
    have H2 := Lib.hid (fun w => version_ok t k n w h)
    clear h
    go_enter Try.func41, Try.ntmps41
    go_wp2_with fail
    refine (H1.out _).mono ?_
    rintro e w1 ⟨rfl, hb1⟩
    go_wp2_with fail
    refine (H2.out _).mono ?_
    rintro e w2 ⟨rfl, hb2⟩
    go_wp2
    go_ret
    exact ⟨rfl, bel1 (hb1.trans (hb2.mono hb1.size))⟩
  | false =>
    rw [rightO_w] at h
    obtain ⟨h1, h2, rfl, rfl⟩ := of_decide_eq_true h
    clear h
    dsimp only
    go_enter Try.func41, Try.ntmps41
    go_wp2
    go_ret
    exact ⟨rfl, by go_grown⟩
set_option maxHeartbeats 1000000 in
set_option maxRecDepth 100000 in
theorem right_no (x : Opr) (w : World) (h : rightO x = false) : Calls Try.prog 41 #[.agg #[.bool x.rd, .int .i64 x.k, .int .i64 x.t, .int .i64 x.n]] w fun e w' => e = .returned (.int .i64 1) ∧ Below w.heap.size w w' := by
  obtain ⟨rd, k, t, n⟩ := x
  cases rd with
  | true =>
    rw [rightO_r] at h
    have H1 := Lib.hid (fun w => of_r k t n w)
    have H2 := Lib.hid (fun w => version_bad t k n w h)
    clear h
    go_enter Try.func41, Try.ntmps41
    go_wp2_with fail
    refine (H1.out _).mono ?_
    rintro e w1 ⟨rfl, hb1⟩
    go_wp2_with fail
    refine (H2.out _).mono ?_
    rintro e w2 ⟨rfl, hb2⟩
    go_wp2
    go_ret
    exact ⟨rfl, bel1 (hb1.trans (hb2.mono hb1.size))⟩
  | false =>
    rw [rightO_w, decide_eq_false_iff_not] at h
    dsimp only
    by_cases h1 : k < 1
    · clear h
      go_enter Try.func41, Try.ntmps41
      go_wp2
      go_ret
      exact ⟨rfl, by go_grown⟩
    by_cases h2 : 1048575 < k
    · clear h
      go_enter Try.func41, Try.ntmps41
      go_wp2
      go_ret
      exact ⟨rfl, by go_grown⟩
    by_cases h3 : t = 0
    · have h4 : (n != 0) = true := by rw [bne_iff_ne]; omega
      clear h
      subst h3
      go_enter Try.func41, Try.ntmps41
      go_wp2
      go_ret
      exact ⟨rfl, by go_grown⟩
    · have h4 : (t != 0) = true := by rw [bne_iff_ne]; exact h3
      clear h h3
      go_enter Try.func41, Try.ntmps41
      go_wp2
      go_ret
      exact ⟨rfl, by go_grown⟩
/-- Why an operation is not right. -/
def whyO (x : Opr) : Int := if rightO x then 0 else 1
theorem right_any (x : Opr) (w : World) : Calls Try.prog 41 #[.agg #[.bool x.rd, .int .i64 x.k, .int .i64 x.t, .int .i64 x.n]] w fun e w' => e = .returned (.int .i64 (whyO x)) ∧ Below w.heap.size w w' := by
  unfold whyO
  cases h : rightO x
  · exact right_no x w h
  · exact right_ok x w h
end Go.Proofs.Ytmgkpabagpgilaa.Op
