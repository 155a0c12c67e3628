/-
  Contracts of small functions, several texts laid into one. Not a statement of the seat.
-/
import Derived.Test.YtmgkpabagpgilaaRows
import Derived.WalkKit
import Derived.ProofKit
import Derived.OpenShut
import Derived.Handy
import Derived.WalkLawsBesides
import Derived.WalkSpells
import Derived.BigQuiet
import Derived.Deep.QuietTactic
import Derived.Laws.BitsAllLaws
import Derived.Lib.Hide
namespace Go.Proofs.Ytmgkpabagpgilaa.Base
open Go.ChangeShapes Go.WideShapes Go.ChangeAt Go.RowKit

theorem bcell {W w1 : World} (hb : Below W.heap.size W w1) : (∀ b o, b < W.heap.size → w1.cell? ⟨b, o, none⟩ = W.cell? ⟨b, o, none⟩) ∧ (∀ b o, b < W.heap.size → w1.frozen? ⟨b, o, none⟩ = W.frozen? ⟨b, o, none⟩) :=
  ⟨fun b o h => hb.cell (p := ⟨b, o, none⟩) h, fun b o h => hb.frozen (p := ⟨b, o, none⟩) h⟩
theorem u64_join (a b : Int) (i : Nat) (h0 : 0 ≤ a) (h1 : a < 18446744073709551616) (h2 : a % 2 ^ i = 0) (h3 : 0 ≤ b) (h4 : b < 2 ^ i) (h5 : b < 18446744073709551616) : bits .or .u64 a b = a + b := by
  rw [u64_or a b h0 h1 h3 h5, nat_join i a.toNat b.toNat]
  · omega
  · have : ((a.toNat % 2 ^ i : Nat) : Int) = 0 := by
      rw [Int.natCast_emod, Int.toNat_of_nonneg h0, Int.natCast_pow]; exact h2
    omega
  · have : ((b.toNat : Nat) : Int) < ((2 ^ i : Nat) : Int) := by rw [Int.toNat_of_nonneg h3, Int.natCast_pow]; exact h4
    omega
theorem u64_mask (a : Int) (i m : Nat) (hm : m = 2 ^ i - 1) (hi : i ≤ 63) (h0 : 0 ≤ a) (h1 : a < 18446744073709551616) : bits .and .u64 a (m : Int) = a % ((2 ^ i : Nat) : Int) := by
  subst hm
  have hp : 2 ^ i ≤ 2 ^ 63 := Nat.pow_le_pow_right (by omega) hi
  rw [u64_and a _ h0 h1 (by omega) (by omega), Int.toNat_natCast, Nat.and_two_pow_sub_one_eq_mod, Int.natCast_emod, Int.toNat_of_nonneg h0]
theorem ret_two {k : IntKind} {a b : Int} {v : Value} (h : a = b) : Ending.returned (.tuple #[.int k a, v]) = .returned (.tuple #[.int k b, v]) := by rw [h]
theorem ret_int {k : IntKind} {a b : Int} (h : a = b) : Ending.returned (.int k a) = .returned (.int k b) := by rw [h]
theorem ret_bool {a b : Bool} (h : a = b) : Ending.returned (.bool a) = .returned (.bool b) := by rw [h]
theorem below_drewN {B : Nat} {w w' : World} (h : Below B w w') (n : Nat) : Below B w (w'.drewN n) := ⟨h.os, h.tape, h.output, h.size, h.block⟩
theorem blk1 {B g : Nat} {w w1 : World} {t : TypeId} {a : Value} (hb : Below B w w1) (hg : g < B) (h : w.heap[g]? = some (.cells #[a] t)) :
    w1.cell? ⟨g, 0, none⟩ = some a ∧ w1.frozen? ⟨g, 0, none⟩ = false := by
  have h1 : w1.heap[g]? = some (.cells #[a] t) := (hb.block g hg).trans h
  simp [World.cell?, World.frozen?, h1]
theorem blk2 {B g : Nat} {w w1 : World} {t : TypeId} {a b : Value} (hb : Below B w w1) (hg : g < B) (h : w.heap[g]? = some (.cells #[a, b] t)) :
    (w1.cell? ⟨g, 0, none⟩ = some a ∧ w1.cell? ⟨g, 1, none⟩ = some b) ∧ (w1.frozen? ⟨g, 0, none⟩ = false ∧ w1.frozen? ⟨g, 1, none⟩ = false) := by
  have h1 : w1.heap[g]? = some (.cells #[a, b] t) := (hb.block g hg).trans h
  simp [World.cell?, World.frozen?, h1]
theorem blk3 {B g : Nat} {w w1 : World} {t : TypeId} {a b c : Value} (hb : Below B w w1) (hg : g < B) (h : w.heap[g]? = some (.cells #[a, b, c] t)) :
    (w1.cell? ⟨g, 0, none⟩ = some a ∧ w1.cell? ⟨g, 1, none⟩ = some b ∧ w1.cell? ⟨g, 2, none⟩ = some c) ∧
    (w1.frozen? ⟨g, 0, none⟩ = false ∧ w1.frozen? ⟨g, 1, none⟩ = false ∧ w1.frozen? ⟨g, 2, none⟩ = false) := by
  have h1 : w1.heap[g]? = some (.cells #[a, b, c] t) := (hb.block g hg).trans h
  simp [World.cell?, World.frozen?, h1]
theorem blk4 {B g : Nat} {w w1 : World} {t : TypeId} {a b c d : Value} (hb : Below B w w1) (hg : g < B) (h : w.heap[g]? = some (.cells #[a, b, c, d] t)) :
    (w1.cell? ⟨g, 0, none⟩ = some a ∧ w1.cell? ⟨g, 1, none⟩ = some b ∧ w1.cell? ⟨g, 2, none⟩ = some c ∧ w1.cell? ⟨g, 3, none⟩ = some d) ∧
    (w1.frozen? ⟨g, 0, none⟩ = false ∧ w1.frozen? ⟨g, 1, none⟩ = false ∧ w1.frozen? ⟨g, 2, none⟩ = false ∧ w1.frozen? ⟨g, 3, none⟩ = false) := by
  have h1 : w1.heap[g]? = some (.cells #[a, b, c, d] t) := (hb.block g hg).trans h
  simp [World.cell?, World.frozen?, h1]
theorem heap_alloc_at (w : World) (o : Obj) (g : Nat) (h : g = w.heap.size) : (w.alloc o).heap[g]? = some o := by
  subst h
  show (w.heap.push o)[w.heap.size]? = some o
  rw [Array.getElem?_push, if_pos rfl]
theorem heap_lt {w : World} {g : Nat} {o : Obj} (h : w.heap[g]? = some o) : g < w.heap.size := by
  rcases Nat.lt_or_ge g w.heap.size with h1 | h1
  · exact h1
  · rw [Array.getElem?_eq_none h1] at h; cases h
theorem heap_alloc_lt (w : World) (o o' : Obj) (g : Nat) (h : w.heap[g]? = some o') : (w.alloc o).heap[g]? = some o' := by
  rw [Below.heap_alloc _ _ _ (heap_lt h), h]
end Go.Proofs.Ytmgkpabagpgilaa.Base
namespace Go.Proofs.Ytmgkpabagpgilaa.Tx
open Go.ChangeShapes Go.WideShapes Go.ChangeAt Go.RowKit Base
/-- A world behind another one: all that lay, lies. -/
def Aft (w W : World) : Prop := Below w.heap.size w W
theorem Aft.refl (w : World) : Aft w w := Below.refl _ _
theorem Aft.lay {w W : World} (h : Aft w W) (o : Obj) : Aft w (W.alloc o) := Below.alloc h h.size o
theorem Aft.trans {w W W' : World} (h : Aft w W) (h' : Aft W W') : Aft w W' := Below.trans h (h'.mono h.size)
theorem Aft.drew {w W : World} (h : Aft w W) (q : Nat) : Aft w (W.drewN q) := below_drewN h q
theorem Aft.one {w : World} (o : Obj) : Aft w (w.alloc o) := (Aft.refl w).lay o
theorem Aft.cell {w W : World} (h : Aft w W) {g o : Nat} (hg : g < w.heap.size) {v : Value} (hc : w.cell? ⟨g, o, none⟩ = some v) : W.cell? ⟨g, o, none⟩ = some v := (Below.cell h (p := ⟨g, o, none⟩) hg).trans hc
/-- What a call that tells a number leaves. -/
def IntNew (n : Int) (w : World) (e : Ending) (w' : World) : Prop := e = .returned (.int .i64 n) ∧ Aft w w'
def BoolNew (r : Bool) (w : World) (e : Ending) (w' : World) : Prop := e = .returned (.bool r) ∧ Aft w w'
end Go.Proofs.Ytmgkpabagpgilaa.Tx
namespace Go.Proofs.Ytmgkpabagpgilaa.Pk
open Go.ChangeShapes Go.WideShapes Go.ChangeAt Go.RowKit Base
def vR (t y n : Int) : Bool := decide ((t = 0 ∧ n = 0 ∨ 1 ≤ t ∧ t ≤ 1048575 ∧ 1 ≤ n ∧ n ≤ 4095) ∧ 1 ≤ y ∧ y ≤ 1048575)
theorem vR_iff {t y n : Int} : vR t y n = true ↔ ((t = 0 ∧ n = 0 ∨ 1 ≤ t ∧ t ≤ 1048575 ∧ 1 ≤ n ∧ n ≤ 4095) ∧ 1 ≤ y ∧ y ≤ 1048575) := by simp [vR]
theorem vR_false {t y n : Int} (h : ¬ ((t = 0 ∧ n = 0 ∨ 1 ≤ t ∧ t ≤ 1048575 ∧ 1 ≤ n ∧ n ≤ 4095) ∧ 1 ≤ y ∧ y ≤ 1048575)) : vR t y n = false := by simp only [vR, decide_eq_false_iff_not]; exact h
def vNum (t y n : Int) : Int := (t * 1048576 + y) * 4096 + n
set_option maxHeartbeats 2000000 in
theorem versionRight_any (t y n : Int) (w : World) : Calls Try.prog 67 #[.agg #[.int .i64 t, .int .i64 y, .int .i64 n]] w fun e w' => e = .returned (.bool (vR t y n)) ∧ Below w.heap.size w w' := by
  by_cases ht : t = 0
  · subst ht
    by_cases hn : n = 0
    · subst hn
      by_cases y1 : 1 ≤ y
      case neg =>
        rw [vR_false (by omega)]
        go_enter Try.func67, Try.ntmps67
        go_wp2
        go_ret
        exact ⟨rfl, by go_grown⟩
      by_cases y2 : y ≤ 1048575
      case neg =>
        rw [vR_false (by omega)]
        go_enter Try.func67, Try.ntmps67
        go_wp2
        go_ret
        exact ⟨rfl, by go_grown⟩
      rw [vR_iff.2 (by omega)]
      go_enter Try.func67, Try.ntmps67
      go_wp2
      go_ret
      exact ⟨rfl, by go_grown⟩
    · have hb : (n != 0) = true := by rw [bne_iff_ne]; exact hn
      rw [vR_false (by omega)]
      go_enter Try.func67, Try.ntmps67
      go_wp2
      go_ret
      exact ⟨rfl, by go_grown⟩
  have hb : (t != 0) = true := by rw [bne_iff_ne]; exact ht
  have hb' : (t == 0) = false := by rw [beq_eq_false_iff_ne]; exact ht
  by_cases n1 : 1 ≤ n
  case neg =>
    rw [vR_false (by omega)]
    go_enter Try.func67, Try.ntmps67
    go_wp2
    go_ret
    exact ⟨rfl, by go_grown⟩
  by_cases n2 : n ≤ 4095
  case neg =>
    rw [vR_false (by omega)]
    go_enter Try.func67, Try.ntmps67
    go_wp2
    go_ret
    exact ⟨rfl, by go_grown⟩
  by_cases t1 : 0 ≤ t
  case neg =>
    rw [vR_false (by omega)]
    go_enter Try.func67, Try.ntmps67
    go_wp2
    go_ret
    exact ⟨rfl, by go_grown⟩
  by_cases t2 : t ≤ 1048575
  case neg =>
    rw [vR_false (by omega)]
    go_enter Try.func67, Try.ntmps67
    go_wp2
    go_ret
    exact ⟨rfl, by go_grown⟩
  by_cases y1 : 1 ≤ y
  case neg =>
    rw [vR_false (by omega)]
    go_enter Try.func67, Try.ntmps67
    go_wp2
    go_ret
    exact ⟨rfl, by go_grown⟩
  by_cases y2 : y ≤ 1048575
  case neg =>
    rw [vR_false (by omega)]
    go_enter Try.func67, Try.ntmps67
    go_wp2
    go_ret
    exact ⟨rfl, by go_grown⟩
  rw [vR_iff.2 (by omega)]
  go_enter Try.func67, Try.ntmps67
  go_wp2
  go_ret
  exact ⟨rfl, by go_grown⟩
theorem version_bits (t y n : Int) (t1 : 0 ≤ t) (t2 : t ≤ 1048575) (y1 : 1 ≤ y) (y2 : y ≤ 1048575) (n1 : 0 ≤ n) (n2 : n ≤ 4095) :
    bits BinOp.or IntKind.u64 (bits BinOp.or IntKind.u64 (t * 4294967296) (y * 4096)) n = vNum t y n := by
  rw [u64_join (t * 4294967296) (y * 4096) 32 (by omega) (by omega) (by omega) (by omega) (by omega) (by omega)]
  rw [u64_join _ n 12 (by omega) (by omega) (by omega) (by omega) (by omega) (by omega)]
  unfold vNum
  omega
set_option maxHeartbeats 1000000 in
theorem version_ok (t y n : Int) (w : World) (hR : vR t y n = true) :
    Calls Try.prog 53 #[.agg #[.int .i64 t, .int .i64 y, .int .i64 n]] w fun e w' => e = .returned (.tuple #[.int .u64 (vNum t y n), .int .i64 0]) ∧ Below w.heap.size w w' := by
  have h := vR_iff.1 hR
  have t1 : 0 ≤ t := by omega
  have t2 : t ≤ 1048575 := by omega
  have y1 : 1 ≤ y := by omega
  have y2 : y ≤ 1048575 := by omega
  have n1 : 0 ≤ n := by omega
  have n2 : n ≤ 4095 := by omega
  clear h
  go_enter Try.func53, Try.ntmps53
  go_wp2_with fail
  refine (versionRight_any _ _ _ _).mono ?_
  rw [hR]
  rintro e w1 ⟨rfl, hb⟩
  obtain ⟨⟨c0, c1, c2⟩, _⟩ := blk3 hb (g := w.heap.size) (by simp) (heap_alloc_at _ _ _ rfl)
  clear hR
  go_wp2
  go_ret2
  exact ⟨ret_two (version_bits t y n t1 t2 y1 y2 n1 n2), ((Below.refl _ _).alloc (Nat.le_refl _) _).trans (hb.mono (by simp))⟩
set_option maxHeartbeats 1000000 in
theorem version_bad (t y n : Int) (w : World) (hR : vR t y n = false) :
    Calls Try.prog 53 #[.agg #[.int .i64 t, .int .i64 y, .int .i64 n]] w fun e w' => e = .returned (.tuple #[.int .u64 0, .int .i64 1]) ∧ Below w.heap.size w w' := by
  go_enter Try.func53, Try.ntmps53
  go_wp2_with fail
  refine (versionRight_any _ _ _ _).mono ?_
  rw [hR]
  rintro e w1 ⟨rfl, hb⟩
  go_wp2
  go_ret2
  exact ⟨rfl, ((Below.refl _ _).alloc (Nat.le_refl _) _).trans (hb.mono (by simp))⟩
end Go.Proofs.Ytmgkpabagpgilaa.Pk
namespace Go.Proofs.Ytmgkpabagpgilaa.Pk
open Go.ChangeShapes Go.WideShapes Go.ChangeAt Go.RowKit Base
end Go.Proofs.Ytmgkpabagpgilaa.Pk
namespace Go.Proofs.Ytmgkpabagpgilaa.Pk
open Go.ChangeShapes Go.WideShapes Go.ChangeAt Go.RowKit

open Base
def eR (f t k y : Int) : Bool := decide (1 ≤ f ∧ f ≤ 1048575 ∧ 1 ≤ t ∧ t ≤ 1048575 ∧ 1 ≤ k ∧ k ≤ 3 ∧ 1 ≤ y ∧ y ≤ 1048575)
theorem eR_iff {f t k y : Int} : eR f t k y = true ↔ (1 ≤ f ∧ f ≤ 1048575 ∧ 1 ≤ t ∧ t ≤ 1048575 ∧ 1 ≤ k ∧ k ≤ 3 ∧ 1 ≤ y ∧ y ≤ 1048575) := by simp [eR]
theorem eR_false {f t k y : Int} (h : ¬ (1 ≤ f ∧ f ≤ 1048575 ∧ 1 ≤ t ∧ t ≤ 1048575 ∧ 1 ≤ k ∧ k ≤ 3 ∧ 1 ≤ y ∧ y ≤ 1048575)) : eR f t k y = false := by simp only [eR, decide_eq_false_iff_not]; exact h
def eNum (f t k y : Int) : Int := ((f * 4 + k) * 1048576 + y) * 1048576 + t
theorem edge_bits (f t k y : Int) (f1 : 1 ≤ f) (f2 : f ≤ 1048575) (t1 : 1 ≤ t) (t2 : t ≤ 1048575) (k1 : 1 ≤ k) (k2 : k ≤ 3) (y1 : 1 ≤ y) (y2 : y ≤ 1048575) :
    bits BinOp.or IntKind.u64 (bits BinOp.or IntKind.u64 (bits BinOp.or IntKind.u64 (f * 4398046511104) (k * 1099511627776)) (y * 1048576)) t = eNum f t k y := by
  rw [u64_join (f * 4398046511104) (k * 1099511627776) 42 (by omega) (by omega) (by omega) (by omega) (by omega) (by omega)]
  rw [u64_join _ (y * 1048576) 40 (by omega) (by omega) (by omega) (by omega) (by omega) (by omega)]
  rw [u64_join _ t 20 (by omega) (by omega) (by omega) (by omega) (by omega) (by omega)]
  unfold eNum
  omega
end Go.Proofs.Ytmgkpabagpgilaa.Pk
namespace Go.Proofs.Ytmgkpabagpgilaa.Pk
open Go.ChangeShapes Go.WideShapes Go.ChangeAt Go.RowKit Base
end Go.Proofs.Ytmgkpabagpgilaa.Pk
