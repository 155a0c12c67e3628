/-
  Contracts of the package pack for versions: which are right, their numbers, the versions of numbers. Not a statement of the seat.
-/
import Derived.Test.YtepfgaiidmbklaaRows
import Derived.WalkKit
import Derived.ProofKit
import Derived.OpenShut
import Derived.Handy
import Derived.WalkLawsBesides
import Derived.WalkSpells
import Derived.BigQuiet
import Derived.Deep.QuietTactic
import Derived.Laws.BitsAllLaws
import Derived.Lib.Hide
import Derived.Test.YtepfgaiidmbklaaPkEdge
namespace Go.Proofs.Ytepfgaiidmbklaa.Pk
open Go.ChangeShapes Go.WideShapes Go.ChangeAt Go.RowKit Base
def vR (t y n : Int) : Bool := decide ((t = 0 ∧ n = 0 ∨ 1 ≤ t ∧ t ≤ 1048575 ∧ 1 ≤ n ∧ n ≤ 4095) ∧ 1 ≤ y ∧ y ≤ 1048575)
theorem vR_iff {t y n : Int} : vR t y n = true ↔ ((t = 0 ∧ n = 0 ∨ 1 ≤ t ∧ t ≤ 1048575 ∧ 1 ≤ n ∧ n ≤ 4095) ∧ 1 ≤ y ∧ y ≤ 1048575) := by simp [vR]
theorem vR_false {t y n : Int} (h : ¬ ((t = 0 ∧ n = 0 ∨ 1 ≤ t ∧ t ≤ 1048575 ∧ 1 ≤ n ∧ n ≤ 4095) ∧ 1 ≤ y ∧ y ≤ 1048575)) : vR t y n = false := by simp only [vR, decide_eq_false_iff_not]; exact h
def vNum (t y n : Int) : Int := (t * 1048576 + y) * 4096 + n
set_option maxHeartbeats 2000000 in
theorem versionRight_any (t y n : Int) (w : World) : Calls Try.prog 30 #[.agg #[.int .i64 t, .int .i64 y, .int .i64 n]] w fun e w' => e = .returned (.bool (vR t y n)) ∧ Below w.heap.size w w' := by
  by_cases ht : t = 0
  · subst ht
    by_cases hn : n = 0
    · subst hn
      by_cases y1 : 1 ≤ y
      case neg =>
        rw [vR_false (by omega)]
        go_enter Try.func30, Try.ntmps30
        go_wp2
        go_ret
        exact ⟨rfl, by go_grown⟩
      by_cases y2 : y ≤ 1048575
      case neg =>
        rw [vR_false (by omega)]
        go_enter Try.func30, Try.ntmps30
        go_wp2
        go_ret
        exact ⟨rfl, by go_grown⟩
      rw [vR_iff.2 (by omega)]
      go_enter Try.func30, Try.ntmps30
      go_wp2
      go_ret
      exact ⟨rfl, by go_grown⟩
    · have hb : (n != 0) = true := by rw [bne_iff_ne]; exact hn
      rw [vR_false (by omega)]
      go_enter Try.func30, Try.ntmps30
      go_wp2
      go_ret
      exact ⟨rfl, by go_grown⟩
  have hb : (t != 0) = true := by rw [bne_iff_ne]; exact ht
  have hb' : (t == 0) = false := by rw [beq_eq_false_iff_ne]; exact ht
  by_cases n1 : 1 ≤ n
  case neg =>
    rw [vR_false (by omega)]
    go_enter Try.func30, Try.ntmps30
    go_wp2
    go_ret
    exact ⟨rfl, by go_grown⟩
  by_cases n2 : n ≤ 4095
  case neg =>
    rw [vR_false (by omega)]
    go_enter Try.func30, Try.ntmps30
    go_wp2
    go_ret
    exact ⟨rfl, by go_grown⟩
  by_cases t1 : 0 ≤ t
  case neg =>
    rw [vR_false (by omega)]
    go_enter Try.func30, Try.ntmps30
    go_wp2
    go_ret
    exact ⟨rfl, by go_grown⟩
  by_cases t2 : t ≤ 1048575
  case neg =>
    rw [vR_false (by omega)]
    go_enter Try.func30, Try.ntmps30
    go_wp2
    go_ret
    exact ⟨rfl, by go_grown⟩
  by_cases y1 : 1 ≤ y
  case neg =>
    rw [vR_false (by omega)]
    go_enter Try.func30, Try.ntmps30
    go_wp2
    go_ret
    exact ⟨rfl, by go_grown⟩
  by_cases y2 : y ≤ 1048575
  case neg =>
    rw [vR_false (by omega)]
    go_enter Try.func30, Try.ntmps30
    go_wp2
    go_ret
    exact ⟨rfl, by go_grown⟩
  rw [vR_iff.2 (by omega)]
  go_enter Try.func30, Try.ntmps30
  go_wp2
  go_ret
  exact ⟨rfl, by go_grown⟩
theorem version_bits (t y n : Int) (t1 : 0 ≤ t) (t2 : t ≤ 1048575) (y1 : 1 ≤ y) (y2 : y ≤ 1048575) (n1 : 0 ≤ n) (n2 : n ≤ 4095) :
    bits BinOp.or IntKind.u64 (bits BinOp.or IntKind.u64 (t * 4294967296) (y * 4096)) n = vNum t y n := by
  rw [u64_join (t * 4294967296) (y * 4096) 32 (by omega) (by omega) (by omega) (by omega) (by omega) (by omega)]
  rw [u64_join _ n 12 (by omega) (by omega) (by omega) (by omega) (by omega) (by omega)]
  unfold vNum
  omega
set_option maxHeartbeats 1000000 in
theorem version_ok (t y n : Int) (w : World) (hR : vR t y n = true) :
    Calls Try.prog 14 #[.agg #[.int .i64 t, .int .i64 y, .int .i64 n]] w fun e w' => e = .returned (.tuple #[.int .u64 (vNum t y n), .int .i64 0]) ∧ Below w.heap.size w w' := by
  have h := vR_iff.1 hR
  have t1 : 0 ≤ t := by omega
  have t2 : t ≤ 1048575 := by omega
  have y1 : 1 ≤ y := by omega
  have y2 : y ≤ 1048575 := by omega
  have n1 : 0 ≤ n := by omega
  have n2 : n ≤ 4095 := by omega
  clear h
  go_enter Try.func14, Try.ntmps14
  go_wp2_with fail
  refine (versionRight_any _ _ _ _).mono ?_
  rw [hR]
  rintro e w1 ⟨rfl, hb⟩
  obtain ⟨⟨c0, c1, c2⟩, _⟩ := blk3 hb (g := w.heap.size) (by simp) (heap_alloc_at _ _ _ rfl)
  clear hR
  go_wp2
  go_ret2
  exact ⟨ret_two (version_bits t y n t1 t2 y1 y2 n1 n2), ((Below.refl _ _).alloc (Nat.le_refl _) _).trans (hb.mono (by simp))⟩
set_option maxHeartbeats 1000000 in
theorem version_bad (t y n : Int) (w : World) (hR : vR t y n = false) :
    Calls Try.prog 14 #[.agg #[.int .i64 t, .int .i64 y, .int .i64 n]] w fun e w' => e = .returned (.tuple #[.int .u64 0, .int .i64 1]) ∧ Below w.heap.size w w' := by
  go_enter Try.func14, Try.ntmps14
  go_wp2_with fail
  refine (versionRight_any _ _ _ _).mono ?_
  rw [hR]
  rintro e w1 ⟨rfl, hb⟩
  go_wp2
  go_ret2
  exact ⟨rfl, ((Below.refl _ _).alloc (Nat.le_refl _) _).trans (hb.mono (by simp))⟩
set_option maxHeartbeats 1000000 in
theorem unversion_ok (x : Int) (w : World) (h0 : 0 ≤ x) (h1 : x < 4503599627370496) (hR : vR (x / 4294967296 % 1048576) (x / 4096 % 1048576) (x % 4096) = true) :
    Calls Try.prog 17 #[.int .u64 x] w fun e w' => e = .returned (.tuple #[.agg #[.int .i64 (x / 4294967296 % 1048576), .int .i64 (x / 4096 % 1048576), .int .i64 (x % 4096)], .int .i64 0]) ∧ Below w.heap.size w w' := by
  go_enter Try.func17, Try.ntmps17
  go_wp2_with fail
  refine (part_32_20 _ _ (by omega) (by omega)).mono ?_
  rintro e w1 ⟨rfl, n1, rfl⟩
  go_wp2_with fail
  refine (part_12_20 _ _ (by omega) (by omega)).mono ?_
  rintro e w1 ⟨rfl, n2, rfl⟩
  go_wp2_with fail
  refine (part_0_12 _ _ (by omega) (by omega)).mono ?_
  rintro e w1 ⟨rfl, n3, rfl⟩
  have hq : x / 4503599627370496 = 0 := by omega
  go_wp2_with fail
  refine (versionRight_any _ _ _ _).mono ?_
  rw [hR]
  rintro e w1 ⟨rfl, hb⟩
  obtain ⟨⟨c0, c1, c2⟩, ⟨d0, d1, d2⟩⟩ := blk3 hb (g := w.heap.size) (by simp; omega) (heap_alloc_lt _ _ _ _ (heap_alloc_at _ _ _ (by simp)))
  obtain ⟨⟨u0, u1, u2⟩, _⟩ := blk3 hb (g := w.heap.size + 1) (by simp) (heap_alloc_at _ _ _ (by simp))
  go_wp2
  refine bodyPost_ret (v := .tuple #[.agg #[.int .i64 (x / 4294967296 % 1048576), .int .i64 (x / 4096 % 1048576), .int .i64 (x % 4096)], .int .i64 0]) (by simp [results, Try.results17, go_sem, c0, c1, c2]) rfl ⟨rfl, ?_⟩
  clear c0 c1 c2 d0 d1 d2 u0 u1 u2
  have hb' := ((below_drewN ((Below.refl w.heap.size w).alloc (Nat.le_refl _) _) (n1 + n2 + n3)).alloc (by simp) _).trans (hb.mono (B' := w.heap.size) (by simp; omega))
  exact ((hb'.setCell (by simp) _).setCell (by simp) _).setCell (by simp) _
set_option maxHeartbeats 1000000 in
theorem unversion_bad (x : Int) (w : World) (h0 : 0 ≤ x) (h1 : x < 4503599627370496) (hR : vR (x / 4294967296 % 1048576) (x / 4096 % 1048576) (x % 4096) = false) :
    Calls Try.prog 17 #[.int .u64 x] w fun e w' => e = .returned (.tuple #[.agg #[.int .i64 0, .int .i64 0, .int .i64 0], .int .i64 5]) ∧ Below w.heap.size w w' := by
  go_enter Try.func17, Try.ntmps17
  go_wp2_with fail
  refine (part_32_20 _ _ (by omega) (by omega)).mono ?_
  rintro e w1 ⟨rfl, n1, rfl⟩
  go_wp2_with fail
  refine (part_12_20 _ _ (by omega) (by omega)).mono ?_
  rintro e w1 ⟨rfl, n2, rfl⟩
  go_wp2_with fail
  refine (part_0_12 _ _ (by omega) (by omega)).mono ?_
  rintro e w1 ⟨rfl, n3, rfl⟩
  have hq : x / 4503599627370496 = 0 := by omega
  go_wp2_with fail
  refine (versionRight_any _ _ _ _).mono ?_
  rw [hR]
  rintro e w1 ⟨rfl, hb⟩
  obtain ⟨⟨c0, c1, c2⟩, ⟨d0, d1, d2⟩⟩ := blk3 hb (g := w.heap.size) (by simp; omega) (heap_alloc_lt _ _ _ _ (heap_alloc_at _ _ _ (by simp)))
  obtain ⟨⟨u0, u1, u2⟩, _⟩ := blk3 hb (g := w.heap.size + 1) (by simp) (heap_alloc_at _ _ _ (by simp))
  go_wp2
  refine bodyPost_ret (v := .tuple #[.agg #[.int .i64 0, .int .i64 0, .int .i64 0], .int .i64 5]) (by simp [results, Try.results17, go_sem, c0, c1, c2]) rfl ⟨rfl, ?_⟩
  clear c0 c1 c2 d0 d1 d2 u0 u1 u2
  have hb' := ((below_drewN ((Below.refl w.heap.size w).alloc (Nat.le_refl _) _) (n1 + n2 + n3)).alloc (by simp) _).trans (hb.mono (B' := w.heap.size) (by simp; omega))
  exact ((hb'.setCell (by simp) _).setCell (by simp) _).setCell (by simp) _
set_option maxHeartbeats 1000000 in
theorem unversion_far (x : Int) (w : World) (h0 : 0 ≤ x) (h1 : 4503599627370496 ≤ x) (h2 : x ≤ 18446744073709551615) :
    Calls Try.prog 17 #[.int .u64 x] w fun e w' => e = .returned (.tuple #[.agg #[.int .i64 0, .int .i64 0, .int .i64 0], .int .i64 5]) ∧ Below w.heap.size w w' := by
  go_enter Try.func17, Try.ntmps17
  go_wp2_with fail
  refine (part_32_20 _ _ (by omega) (by omega)).mono ?_
  rintro e w1 ⟨rfl, n1, rfl⟩
  go_wp2_with fail
  refine (part_12_20 _ _ (by omega) (by omega)).mono ?_
  rintro e w1 ⟨rfl, n2, rfl⟩
  go_wp2_with fail
  refine (part_0_12 _ _ (by omega) (by omega)).mono ?_
  rintro e w1 ⟨rfl, n3, rfl⟩
  have hq : (x / 4503599627370496 != 0) = true := by rw [bne_iff_ne]; omega
  go_wp2
  refine bodyPost_ret (v := .tuple #[.agg #[.int .i64 0, .int .i64 0, .int .i64 0], .int .i64 5]) (by simp [results, Try.results17, go_sem]) rfl ⟨rfl, ?_⟩
  repeat' (first | exact Below.refl _ _ | apply below_drewN | (refine Below.alloc ?_ (by simp) _) | (refine Below.setCell ?_ (by simp) _))
end Go.Proofs.Ytepfgaiidmbklaa.Pk
