/-
  Contracts of the package pack for edges: which edges are right, their numbers, the edges of numbers. Not a statement of the seat.
-/
import Derived.Test.YtepfgaiidmbklaaRows
import Derived.WalkKit
import Derived.ProofKit
import Derived.OpenShut
import Derived.Handy
import Derived.WalkLawsBesides
import Derived.WalkSpells
import Derived.BigQuiet
import Derived.Deep.QuietTactic
import Derived.Laws.BitsAllLaws
import Derived.Lib.Hide
import Derived.Test.YtepfgaiidmbklaaBase
namespace Go.Proofs.Ytepfgaiidmbklaa.Pk
open Go.ChangeShapes Go.WideShapes Go.ChangeAt Go.RowKit

open Base
def eR (f t k y : Int) : Bool := decide (1 ≤ f ∧ f ≤ 1048575 ∧ 1 ≤ t ∧ t ≤ 1048575 ∧ 1 ≤ k ∧ k ≤ 3 ∧ 1 ≤ y ∧ y ≤ 1048575)
theorem eR_iff {f t k y : Int} : eR f t k y = true ↔ (1 ≤ f ∧ f ≤ 1048575 ∧ 1 ≤ t ∧ t ≤ 1048575 ∧ 1 ≤ k ∧ k ≤ 3 ∧ 1 ≤ y ∧ y ≤ 1048575) := by simp [eR]
theorem eR_false {f t k y : Int} (h : ¬ (1 ≤ f ∧ f ≤ 1048575 ∧ 1 ≤ t ∧ t ≤ 1048575 ∧ 1 ≤ k ∧ k ≤ 3 ∧ 1 ≤ y ∧ y ≤ 1048575)) : eR f t k y = false := by simp only [eR, decide_eq_false_iff_not]; exact h
def eNum (f t k y : Int) : Int := ((f * 4 + k) * 1048576 + y) * 1048576 + t
set_option maxHeartbeats 1000000 in
theorem edgeRight_any (f t k y : Int) (w : World) : Calls Try.prog 27 #[.agg #[.int .i64 f, .int .i64 t, .int .i64 k, .int .i64 y]] w fun e w' => e = .returned (.bool (eR f t k y)) ∧ Below w.heap.size w w' := by
  by_cases f1 : 1 ≤ f
  case neg =>
    rw [eR_false (by omega)]
    go_enter Try.func27, Try.ntmps27
    go_wp2
    go_ret
    exact ⟨rfl, by go_grown⟩
  by_cases f2 : f ≤ 1048575
  case neg =>
    rw [eR_false (by omega)]
    go_enter Try.func27, Try.ntmps27
    go_wp2
    go_ret
    exact ⟨rfl, by go_grown⟩
  by_cases t1 : 1 ≤ t
  case neg =>
    rw [eR_false (by omega)]
    go_enter Try.func27, Try.ntmps27
    go_wp2
    go_ret
    exact ⟨rfl, by go_grown⟩
  by_cases t2 : t ≤ 1048575
  case neg =>
    rw [eR_false (by omega)]
    go_enter Try.func27, Try.ntmps27
    go_wp2
    go_ret
    exact ⟨rfl, by go_grown⟩
  by_cases k1 : 1 ≤ k
  case neg =>
    rw [eR_false (by omega)]
    go_enter Try.func27, Try.ntmps27
    go_wp2
    go_ret
    exact ⟨rfl, by go_grown⟩
  by_cases k2 : k ≤ 3
  case neg =>
    rw [eR_false (by omega)]
    go_enter Try.func27, Try.ntmps27
    go_wp2
    go_ret
    exact ⟨rfl, by go_grown⟩
  by_cases y1 : 1 ≤ y
  case neg =>
    rw [eR_false (by omega)]
    go_enter Try.func27, Try.ntmps27
    go_wp2
    go_ret
    exact ⟨rfl, by go_grown⟩
  by_cases y2 : y ≤ 1048575
  case neg =>
    rw [eR_false (by omega)]
    go_enter Try.func27, Try.ntmps27
    go_wp2
    go_ret
    exact ⟨rfl, by go_grown⟩
  rw [eR_iff.2 ⟨f1, f2, t1, t2, k1, k2, y1, y2⟩]
  go_enter Try.func27, Try.ntmps27
  go_wp2
  go_ret
  exact ⟨rfl, by go_grown⟩
theorem edge_bits (f t k y : Int) (f1 : 1 ≤ f) (f2 : f ≤ 1048575) (t1 : 1 ≤ t) (t2 : t ≤ 1048575) (k1 : 1 ≤ k) (k2 : k ≤ 3) (y1 : 1 ≤ y) (y2 : y ≤ 1048575) :
    bits BinOp.or IntKind.u64 (bits BinOp.or IntKind.u64 (bits BinOp.or IntKind.u64 (f * 4398046511104) (k * 1099511627776)) (y * 1048576)) t = eNum f t k y := by
  rw [u64_join (f * 4398046511104) (k * 1099511627776) 42 (by omega) (by omega) (by omega) (by omega) (by omega) (by omega)]
  rw [u64_join _ (y * 1048576) 40 (by omega) (by omega) (by omega) (by omega) (by omega) (by omega)]
  rw [u64_join _ t 20 (by omega) (by omega) (by omega) (by omega) (by omega) (by omega)]
  unfold eNum
  omega
set_option maxHeartbeats 1000000 in
theorem edge_ok (f t k y : Int) (w : World) (hR : eR f t k y = true) :
    Calls Try.prog 8 #[.agg #[.int .i64 f, .int .i64 t, .int .i64 k, .int .i64 y]] w fun e w' => e = .returned (.tuple #[.int .u64 (eNum f t k y), .int .i64 0]) ∧ Below w.heap.size w w' := by
  obtain ⟨f1, f2, t1, t2, k1, k2, y1, y2⟩ := eR_iff.1 hR
  go_enter Try.func8, Try.ntmps8
  go_wp2_with fail
  refine (edgeRight_any _ _ _ _ _).mono ?_
  rw [hR]
  rintro e w1 ⟨rfl, hb⟩
  obtain ⟨⟨c0, c1, c2, c3⟩, _⟩ := blk4 hb (g := w.heap.size) (by simp) (heap_alloc_at _ _ _ rfl)
  clear hR
  go_wp2
  go_ret2
  exact ⟨ret_two (edge_bits f t k y f1 f2 t1 t2 k1 k2 y1 y2), ((Below.refl _ _).alloc (Nat.le_refl _) _).trans (hb.mono (by simp))⟩
set_option maxHeartbeats 1000000 in
theorem edge_bad (f t k y : Int) (w : World) (hR : eR f t k y = false) :
    Calls Try.prog 8 #[.agg #[.int .i64 f, .int .i64 t, .int .i64 k, .int .i64 y]] w fun e w' => e = .returned (.tuple #[.int .u64 0, .int .i64 1]) ∧ Below w.heap.size w w' := by
  go_enter Try.func8, Try.ntmps8
  go_wp2_with fail
  refine (edgeRight_any _ _ _ _ _).mono ?_
  rw [hR]
  rintro e w1 ⟨rfl, hb⟩
  go_wp2
  go_ret2
  exact ⟨rfl, ((Below.refl _ _).alloc (Nat.le_refl _) _).trans (hb.mono (by simp))⟩
set_option maxHeartbeats 1000000 in
theorem part_42_20 (x : Int) (w : World) (h0 : 0 ≤ x) (h1 : x ≤ 18446744073709551615) :
    Calls Try.prog 29 #[.int .u64 x, .int .i64 42, .int .i64 20] w fun e w' => e = .returned (.int .i64 (x / 4398046511104 % 1048576)) ∧ ∃ n, w' = w.drewN n := by
  have hm := u64_mask (x / 4398046511104) 20 1048575 rfl (by omega) (by omega) (by omega)
  simp at hm
  go_enter Try.func29, Try.ntmps29
  go_wp2
  go_quiet (fail)
  go_wp2
  go_ret
  exact ⟨rfl, _, rfl⟩
set_option maxHeartbeats 1000000 in
theorem part_0_20 (x : Int) (w : World) (h0 : 0 ≤ x) (h1 : x ≤ 18446744073709551615) :
    Calls Try.prog 29 #[.int .u64 x, .int .i64 0, .int .i64 20] w fun e w' => e = .returned (.int .i64 (x % 1048576)) ∧ ∃ n, w' = w.drewN n := by
  have hm := u64_mask x 20 1048575 rfl (by omega) (by omega) (by omega)
  simp at hm
  go_enter Try.func29, Try.ntmps29
  go_wp2
  go_quiet (fail)
  go_wp2
  go_ret
  exact ⟨rfl, _, rfl⟩
set_option maxHeartbeats 1000000 in
theorem part_40_2 (x : Int) (w : World) (h0 : 0 ≤ x) (h1 : x ≤ 18446744073709551615) :
    Calls Try.prog 29 #[.int .u64 x, .int .i64 40, .int .i64 2] w fun e w' => e = .returned (.int .i64 (x / 1099511627776 % 4)) ∧ ∃ n, w' = w.drewN n := by
  have hm := u64_mask (x / 1099511627776) 2 3 rfl (by omega) (by omega) (by omega)
  simp at hm
  go_enter Try.func29, Try.ntmps29
  go_wp2
  go_quiet (fail)
  go_wp2
  go_ret
  exact ⟨rfl, _, rfl⟩
set_option maxHeartbeats 1000000 in
theorem part_20_20 (x : Int) (w : World) (h0 : 0 ≤ x) (h1 : x ≤ 18446744073709551615) :
    Calls Try.prog 29 #[.int .u64 x, .int .i64 20, .int .i64 20] w fun e w' => e = .returned (.int .i64 (x / 1048576 % 1048576)) ∧ ∃ n, w' = w.drewN n := by
  have hm := u64_mask (x / 1048576) 20 1048575 rfl (by omega) (by omega) (by omega)
  simp at hm
  go_enter Try.func29, Try.ntmps29
  go_wp2
  go_quiet (fail)
  go_wp2
  go_ret
  exact ⟨rfl, _, rfl⟩
set_option maxHeartbeats 1000000 in
theorem part_32_20 (x : Int) (w : World) (h0 : 0 ≤ x) (h1 : x ≤ 18446744073709551615) :
    Calls Try.prog 29 #[.int .u64 x, .int .i64 32, .int .i64 20] w fun e w' => e = .returned (.int .i64 (x / 4294967296 % 1048576)) ∧ ∃ n, w' = w.drewN n := by
  have hm := u64_mask (x / 4294967296) 20 1048575 rfl (by omega) (by omega) (by omega)
  simp at hm
  go_enter Try.func29, Try.ntmps29
  go_wp2
  go_quiet (fail)
  go_wp2
  go_ret
  exact ⟨rfl, _, rfl⟩
set_option maxHeartbeats 1000000 in
theorem part_12_20 (x : Int) (w : World) (h0 : 0 ≤ x) (h1 : x ≤ 18446744073709551615) :
    Calls Try.prog 29 #[.int .u64 x, .int .i64 12, .int .i64 20] w fun e w' => e = .returned (.int .i64 (x / 4096 % 1048576)) ∧ ∃ n, w' = w.drewN n := by
  have hm := u64_mask (x / 4096) 20 1048575 rfl (by omega) (by omega) (by omega)
  simp at hm
  go_enter Try.func29, Try.ntmps29
  go_wp2
  go_quiet (fail)
  go_wp2
  go_ret
  exact ⟨rfl, _, rfl⟩
set_option maxHeartbeats 1000000 in
theorem part_0_12 (x : Int) (w : World) (h0 : 0 ≤ x) (h1 : x ≤ 18446744073709551615) :
    Calls Try.prog 29 #[.int .u64 x, .int .i64 0, .int .i64 12] w fun e w' => e = .returned (.int .i64 (x % 4096)) ∧ ∃ n, w' = w.drewN n := by
  have hm := u64_mask x 12 4095 rfl (by omega) (by omega) (by omega)
  simp at hm
  go_enter Try.func29, Try.ntmps29
  go_wp2
  go_quiet (fail)
  go_wp2
  go_ret
  exact ⟨rfl, _, rfl⟩
set_option maxHeartbeats 1000000 in
theorem unedge_ok (x : Int) (w : World) (h0 : 0 ≤ x) (h1 : x < 4611686018427387904) (hR : eR (x / 4398046511104 % 1048576) (x % 1048576) (x / 1099511627776 % 4) (x / 1048576 % 1048576) = true) :
    Calls Try.prog 11 #[.int .u64 x] w fun e w' => e = .returned (.tuple #[.agg #[.int .i64 (x / 4398046511104 % 1048576), .int .i64 (x % 1048576), .int .i64 (x / 1099511627776 % 4), .int .i64 (x / 1048576 % 1048576)], .int .i64 0]) ∧ Below w.heap.size w w' := by
  go_enter Try.func11, Try.ntmps11
  go_wp2_with fail
  refine (part_42_20 _ _ (by omega) (by omega)).mono ?_
  rintro e w1 ⟨rfl, n1, rfl⟩
  go_wp2_with fail
  refine (part_0_20 _ _ (by omega) (by omega)).mono ?_
  rintro e w1 ⟨rfl, n2, rfl⟩
  go_wp2_with fail
  refine (part_40_2 _ _ (by omega) (by omega)).mono ?_
  rintro e w1 ⟨rfl, n3, rfl⟩
  go_wp2_with fail
  refine (part_20_20 _ _ (by omega) (by omega)).mono ?_
  rintro e w1 ⟨rfl, n4, rfl⟩
  have hq : x / 4611686018427387904 = 0 := by omega
  go_wp2_with fail
  refine (edgeRight_any _ _ _ _ _).mono ?_
  rw [hR]
  rintro e w1 ⟨rfl, hb⟩
  obtain ⟨⟨c0, c1, c2, c3⟩, ⟨d0, d1, d2, d3⟩⟩ := blk4 hb (g := w.heap.size) (by simp; omega) (heap_alloc_lt _ _ _ _ (heap_alloc_at _ _ _ (by simp)))
  obtain ⟨⟨u0, u1, u2, u3⟩, _⟩ := blk4 hb (g := w.heap.size + 1) (by simp) (heap_alloc_at _ _ _ (by simp))
  go_wp2
  refine bodyPost_ret (v := .tuple #[.agg #[.int .i64 (x / 4398046511104 % 1048576), .int .i64 (x % 1048576), .int .i64 (x / 1099511627776 % 4), .int .i64 (x / 1048576 % 1048576)], .int .i64 0]) (by simp [results, Try.results11, go_sem, c0, c1, c2, c3]) rfl ⟨rfl, ?_⟩
  clear c0 c1 c2 c3 d0 d1 d2 d3 u0 u1 u2 u3
  have hb' := ((below_drewN ((Below.refl w.heap.size w).alloc (Nat.le_refl _) _) (n1 + n2 + n3 + n4)).alloc (by simp) _).trans (hb.mono (B' := w.heap.size) (by simp; omega))
  exact (((hb'.setCell (by simp) _).setCell (by simp) _).setCell (by simp) _).setCell (by simp) _
set_option maxHeartbeats 1000000 in
theorem unedge_bad (x : Int) (w : World) (h0 : 0 ≤ x) (h1 : x < 4611686018427387904) (hR : eR (x / 4398046511104 % 1048576) (x % 1048576) (x / 1099511627776 % 4) (x / 1048576 % 1048576) = false) :
    Calls Try.prog 11 #[.int .u64 x] w fun e w' => e = .returned (.tuple #[.agg #[.int .i64 0, .int .i64 0, .int .i64 0, .int .i64 0], .int .i64 5]) ∧ Below w.heap.size w w' := by
  go_enter Try.func11, Try.ntmps11
  go_wp2_with fail
  refine (part_42_20 _ _ (by omega) (by omega)).mono ?_
  rintro e w1 ⟨rfl, n1, rfl⟩
  go_wp2_with fail
  refine (part_0_20 _ _ (by omega) (by omega)).mono ?_
  rintro e w1 ⟨rfl, n2, rfl⟩
  go_wp2_with fail
  refine (part_40_2 _ _ (by omega) (by omega)).mono ?_
  rintro e w1 ⟨rfl, n3, rfl⟩
  go_wp2_with fail
  refine (part_20_20 _ _ (by omega) (by omega)).mono ?_
  rintro e w1 ⟨rfl, n4, rfl⟩
  have hq : x / 4611686018427387904 = 0 := by omega
  go_wp2_with fail
  refine (edgeRight_any _ _ _ _ _).mono ?_
  rw [hR]
  rintro e w1 ⟨rfl, hb⟩
  obtain ⟨⟨c0, c1, c2, c3⟩, ⟨d0, d1, d2, d3⟩⟩ := blk4 hb (g := w.heap.size) (by simp; omega) (heap_alloc_lt _ _ _ _ (heap_alloc_at _ _ _ (by simp)))
  obtain ⟨⟨u0, u1, u2, u3⟩, _⟩ := blk4 hb (g := w.heap.size + 1) (by simp) (heap_alloc_at _ _ _ (by simp))
  go_wp2
  refine bodyPost_ret (v := .tuple #[.agg #[.int .i64 0, .int .i64 0, .int .i64 0, .int .i64 0], .int .i64 5]) (by simp [results, Try.results11, go_sem, c0, c1, c2, c3]) rfl ⟨rfl, ?_⟩
  clear c0 c1 c2 c3 d0 d1 d2 d3 u0 u1 u2 u3
  have hb' := ((below_drewN ((Below.refl w.heap.size w).alloc (Nat.le_refl _) _) (n1 + n2 + n3 + n4)).alloc (by simp) _).trans (hb.mono (B' := w.heap.size) (by simp; omega))
  exact (((hb'.setCell (by simp) _).setCell (by simp) _).setCell (by simp) _).setCell (by simp) _
set_option maxHeartbeats 1000000 in
theorem unedge_far (x : Int) (w : World) (h0 : 0 ≤ x) (h1 : 4611686018427387904 ≤ x) (h2 : x ≤ 18446744073709551615) :
    Calls Try.prog 11 #[.int .u64 x] w fun e w' => e = .returned (.tuple #[.agg #[.int .i64 0, .int .i64 0, .int .i64 0, .int .i64 0], .int .i64 5]) ∧ Below w.heap.size w w' := by
  go_enter Try.func11, Try.ntmps11
  go_wp2_with fail
  refine (part_42_20 _ _ (by omega) (by omega)).mono ?_
  rintro e w1 ⟨rfl, n1, rfl⟩
  go_wp2_with fail
  refine (part_0_20 _ _ (by omega) (by omega)).mono ?_
  rintro e w1 ⟨rfl, n2, rfl⟩
  go_wp2_with fail
  refine (part_40_2 _ _ (by omega) (by omega)).mono ?_
  rintro e w1 ⟨rfl, n3, rfl⟩
  go_wp2_with fail
  refine (part_20_20 _ _ (by omega) (by omega)).mono ?_
  rintro e w1 ⟨rfl, n4, rfl⟩
  have hq : (x / 4611686018427387904 != 0) = true := by rw [bne_iff_ne]; omega
  go_wp2
  refine bodyPost_ret (v := .tuple #[.agg #[.int .i64 0, .int .i64 0, .int .i64 0, .int .i64 0], .int .i64 5]) (by simp [results, Try.results11, go_sem]) rfl ⟨rfl, ?_⟩
  repeat' (first | exact Below.refl _ _ | apply below_drewN | (refine Below.alloc ?_ (by simp) _) | (refine Below.setCell ?_ (by simp) _))
end Go.Proofs.Ytepfgaiidmbklaa.Pk
