/-
  Contracts of small functions, several texts laid into one. Not a statement of the seat.
-/
import Derived.Test.YtiiipnfkkdfgbaaBase
import Derived.Test.YtiiipnfkkdfgbaaRows
import Derived.WalkKit
import Derived.ProofKit
import Derived.OpenShut
import Derived.Handy
import Derived.WalkLawsBesides
import Derived.WalkSpells
import Derived.BigQuiet
import Derived.Deep.QuietTactic
import Derived.Laws.BitsAllLaws
import Derived.Lib.Hide
namespace Go.Proofs.Ytiiipnfkkdfgbaa.Tx
open Go.ChangeShapes Go.WideShapes Go.ChangeAt Go.RowKit Base
/-- A world behind another one: all that lay, lies. -/
def Aft (w W : World) : Prop := Below w.heap.size w W
theorem Aft.refl (w : World) : Aft w w := Below.refl _ _
theorem Aft.lay {w W : World} (h : Aft w W) (o : Obj) : Aft w (W.alloc o) := Below.alloc h h.size o
theorem Aft.trans {w W W' : World} (h : Aft w W) (h' : Aft W W') : Aft w W' := Below.trans h (h'.mono h.size)
theorem Aft.drew {w W : World} (h : Aft w W) (q : Nat) : Aft w (W.drewN q) := below_drewN h q
theorem Aft.one {w : World} (o : Obj) : Aft w (w.alloc o) := (Aft.refl w).lay o
theorem Aft.cell {w W : World} (h : Aft w W) {g o : Nat} (hg : g < w.heap.size) {v : Value} (hc : w.cell? ⟨g, o, none⟩ = some v) : W.cell? ⟨g, o, none⟩ = some v := (Below.cell h (p := ⟨g, o, none⟩) hg).trans hc
/-- What a call that tells a number leaves. -/
def IntNew (n : Int) (w : World) (e : Ending) (w' : World) : Prop := e = .returned (.int .i64 n) ∧ Aft w w'
def BoolNew (r : Bool) (w : World) (e : Ending) (w' : World) : Prop := e = .returned (.bool r) ∧ Aft w w'
end Go.Proofs.Ytiiipnfkkdfgbaa.Tx
namespace Go.Proofs.Ytiiipnfkkdfgbaa.Pk
open Go.ChangeShapes Go.WideShapes Go.ChangeAt Go.RowKit Base
def vR (t y n : Int) : Bool := decide ((t = 0 ∧ n = 0 ∨ 1 ≤ t ∧ t ≤ 1048575 ∧ 1 ≤ n ∧ n ≤ 4095) ∧ 1 ≤ y ∧ y ≤ 1048575)
theorem vR_iff {t y n : Int} : vR t y n = true ↔ ((t = 0 ∧ n = 0 ∨ 1 ≤ t ∧ t ≤ 1048575 ∧ 1 ≤ n ∧ n ≤ 4095) ∧ 1 ≤ y ∧ y ≤ 1048575) := by simp [vR]
theorem vR_false {t y n : Int} (h : ¬ ((t = 0 ∧ n = 0 ∨ 1 ≤ t ∧ t ≤ 1048575 ∧ 1 ≤ n ∧ n ≤ 4095) ∧ 1 ≤ y ∧ y ≤ 1048575)) : vR t y n = false := by simp only [vR, decide_eq_false_iff_not]; exact h
def vNum (t y n : Int) : Int := (t * 1048576 + y) * 4096 + n
set_option maxHeartbeats 2000000 in
theorem versionRight_any (t y n : Int) (w : World) : Calls Try.prog 102 #[.agg #[.int .i64 t, .int .i64 y, .int .i64 n]] w fun e w' => e = .returned (.bool (vR t y n)) ∧ Below w.heap.size w w' := by
  by_cases ht : t = 0
  · subst ht
    by_cases hn : n = 0
    · subst hn
      by_cases y1 : 1 ≤ y
      case neg =>
        rw [vR_false (by omega)]
        go_enter Try.func102, Try.ntmps102
        go_wp2
        go_ret
        exact ⟨rfl, by go_grown⟩
      by_cases y2 : y ≤ 1048575
      case neg =>
        rw [vR_false (by omega)]
        go_enter Try.func102, Try.ntmps102
        go_wp2
        go_ret
        exact ⟨rfl, by go_grown⟩
      rw [vR_iff.2 (by omega)]
      go_enter Try.func102, Try.ntmps102
      go_wp2
      go_ret
      exact ⟨rfl, by go_grown⟩
    · have hb : (n != 0) = true := by rw [bne_iff_ne]; exact hn
      rw [vR_false (by omega)]
      go_enter Try.func102, Try.ntmps102
      go_wp2
      go_ret
      exact ⟨rfl, by go_grown⟩
  have hb : (t != 0) = true := by rw [bne_iff_ne]; exact ht
  have hb' : (t == 0) = false := by rw [beq_eq_false_iff_ne]; exact ht
  by_cases n1 : 1 ≤ n
  case neg =>
    rw [vR_false (by omega)]
    go_enter Try.func102, Try.ntmps102
    go_wp2
    go_ret
    exact ⟨rfl, by go_grown⟩
  by_cases n2 : n ≤ 4095
  case neg =>
    rw [vR_false (by omega)]
    go_enter Try.func102, Try.ntmps102
    go_wp2
    go_ret
    exact ⟨rfl, by go_grown⟩
  by_cases t1 : 0 ≤ t
  case neg =>
    rw [vR_false (by omega)]
    go_enter Try.func102, Try.ntmps102
    go_wp2
    go_ret
    exact ⟨rfl, by go_grown⟩
  by_cases t2 : t ≤ 1048575
  case neg =>
    rw [vR_false (by omega)]
    go_enter Try.func102, Try.ntmps102
    go_wp2
    go_ret
    exact ⟨rfl, by go_grown⟩
  by_cases y1 : 1 ≤ y
  case neg =>
    rw [vR_false (by omega)]
    go_enter Try.func102, Try.ntmps102
    go_wp2
    go_ret
    exact ⟨rfl, by go_grown⟩
  by_cases y2 : y ≤ 1048575
  case neg =>
    rw [vR_false (by omega)]
    go_enter Try.func102, Try.ntmps102
    go_wp2
    go_ret
    exact ⟨rfl, by go_grown⟩
  rw [vR_iff.2 (by omega)]
  go_enter Try.func102, Try.ntmps102
  go_wp2
  go_ret
  exact ⟨rfl, by go_grown⟩
theorem version_bits (t y n : Int) (t1 : 0 ≤ t) (t2 : t ≤ 1048575) (y1 : 1 ≤ y) (y2 : y ≤ 1048575) (n1 : 0 ≤ n) (n2 : n ≤ 4095) :
    bits BinOp.or IntKind.u64 (bits BinOp.or IntKind.u64 (t * 4294967296) (y * 4096)) n = vNum t y n := by
  rw [u64_join (t * 4294967296) (y * 4096) 32 (by omega) (by omega) (by omega) (by omega) (by omega) (by omega)]
  rw [u64_join _ n 12 (by omega) (by omega) (by omega) (by omega) (by omega) (by omega)]
  unfold vNum
  omega
set_option maxHeartbeats 1000000 in
theorem version_ok (t y n : Int) (w : World) (hR : vR t y n = true) :
    Calls Try.prog 89 #[.agg #[.int .i64 t, .int .i64 y, .int .i64 n]] w fun e w' => e = .returned (.tuple #[.int .u64 (vNum t y n), .int .i64 0]) ∧ Below w.heap.size w w' := by
  have h := vR_iff.1 hR
  have t1 : 0 ≤ t := by omega
  have t2 : t ≤ 1048575 := by omega
  have y1 : 1 ≤ y := by omega
  have y2 : y ≤ 1048575 := by omega
  have n1 : 0 ≤ n := by omega
  have n2 : n ≤ 4095 := by omega
  clear h
  go_enter Try.func89, Try.ntmps89
  go_wp2_with fail
  refine (versionRight_any _ _ _ _).mono ?_
  rw [hR]
  rintro e w1 ⟨rfl, hb⟩
  obtain ⟨⟨c0, c1, c2⟩, _⟩ := blk3 hb (g := w.heap.size) (by simp) (heap_alloc_at _ _ _ rfl)
  clear hR
  go_wp2
  go_ret2
  exact ⟨ret_two (version_bits t y n t1 t2 y1 y2 n1 n2), ((Below.refl _ _).alloc (Nat.le_refl _) _).trans (hb.mono (by simp))⟩
set_option maxHeartbeats 1000000 in
theorem version_bad (t y n : Int) (w : World) (hR : vR t y n = false) :
    Calls Try.prog 89 #[.agg #[.int .i64 t, .int .i64 y, .int .i64 n]] w fun e w' => e = .returned (.tuple #[.int .u64 0, .int .i64 1]) ∧ Below w.heap.size w w' := by
  go_enter Try.func89, Try.ntmps89
  go_wp2_with fail
  refine (versionRight_any _ _ _ _).mono ?_
  rw [hR]
  rintro e w1 ⟨rfl, hb⟩
  go_wp2
  go_ret2
  exact ⟨rfl, ((Below.refl _ _).alloc (Nat.le_refl _) _).trans (hb.mono (by simp))⟩
end Go.Proofs.Ytiiipnfkkdfgbaa.Pk
namespace Go.Proofs.Ytiiipnfkkdfgbaa.Pk
open Go.ChangeShapes Go.WideShapes Go.ChangeAt Go.RowKit Base
end Go.Proofs.Ytiiipnfkkdfgbaa.Pk
