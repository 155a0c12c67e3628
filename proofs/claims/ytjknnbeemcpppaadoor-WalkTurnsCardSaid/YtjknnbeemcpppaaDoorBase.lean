/-
  Helper facts: bits of 64-bit words as sums and remainders; blocks of a world that are known whole stay as they were. Plain lemmas, no statement of the seat.
-/
import Derived.Test.YtjknnbeemcpppaaDoorRows
import Derived.WalkKit
import Derived.ProofKit
import Derived.OpenShut
import Derived.Handy
import Derived.WalkLawsBesides
import Derived.WalkSpells
import Derived.BigQuiet
import Derived.Deep.QuietTactic
import Derived.Laws.BitsAllLaws
import Derived.Lib.Hide
namespace Go.Proofs.YtjknnbeemcpppaaDoor.Base
open Go.ChangeShapes Go.WideShapes Go.ChangeAt Go.RowKit

theorem bcell {W w1 : World} (hb : Below W.heap.size W w1) : (∀ b o, b < W.heap.size → w1.cell? ⟨b, o, none⟩ = W.cell? ⟨b, o, none⟩) ∧ (∀ b o, b < W.heap.size → w1.frozen? ⟨b, o, none⟩ = W.frozen? ⟨b, o, none⟩) :=
  ⟨fun b o h => hb.cell (p := ⟨b, o, none⟩) h, fun b o h => hb.frozen (p := ⟨b, o, none⟩) h⟩
theorem u64_join (a b : Int) (i : Nat) (h0 : 0 ≤ a) (h1 : a < 18446744073709551616) (h2 : a % 2 ^ i = 0) (h3 : 0 ≤ b) (h4 : b < 2 ^ i) (h5 : b < 18446744073709551616) : bits .or .u64 a b = a + b := by
  rw [u64_or a b h0 h1 h3 h5, nat_join i a.toNat b.toNat]
  · omega
  · have : ((a.toNat % 2 ^ i : Nat) : Int) = 0 := by
      rw [Int.natCast_emod, Int.toNat_of_nonneg h0, Int.natCast_pow]; exact h2
    omega
  · have : ((b.toNat : Nat) : Int) < ((2 ^ i : Nat) : Int) := by rw [Int.toNat_of_nonneg h3, Int.natCast_pow]; exact h4
    omega
theorem u64_mask (a : Int) (i m : Nat) (hm : m = 2 ^ i - 1) (hi : i ≤ 63) (h0 : 0 ≤ a) (h1 : a < 18446744073709551616) : bits .and .u64 a (m : Int) = a % ((2 ^ i : Nat) : Int) := by
  subst hm
  have hp : 2 ^ i ≤ 2 ^ 63 := Nat.pow_le_pow_right (by omega) hi
  rw [u64_and a _ h0 h1 (by omega) (by omega), Int.toNat_natCast, Nat.and_two_pow_sub_one_eq_mod, Int.natCast_emod, Int.toNat_of_nonneg h0]
theorem ret_two {k : IntKind} {a b : Int} {v : Value} (h : a = b) : Ending.returned (.tuple #[.int k a, v]) = .returned (.tuple #[.int k b, v]) := by rw [h]
theorem ret_int {k : IntKind} {a b : Int} (h : a = b) : Ending.returned (.int k a) = .returned (.int k b) := by rw [h]
theorem ret_bool {a b : Bool} (h : a = b) : Ending.returned (.bool a) = .returned (.bool b) := by rw [h]
theorem below_drewN {B : Nat} {w w' : World} (h : Below B w w') (n : Nat) : Below B w (w'.drewN n) := ⟨h.os, h.tape, h.output, h.size, h.block⟩
theorem blk1 {B g : Nat} {w w1 : World} {t : TypeId} {a : Value} (hb : Below B w w1) (hg : g < B) (h : w.heap[g]? = some (.cells #[a] t)) :
    w1.cell? ⟨g, 0, none⟩ = some a ∧ w1.frozen? ⟨g, 0, none⟩ = false := by
  have h1 : w1.heap[g]? = some (.cells #[a] t) := (hb.block g hg).trans h
  simp [World.cell?, World.frozen?, h1]
theorem blk2 {B g : Nat} {w w1 : World} {t : TypeId} {a b : Value} (hb : Below B w w1) (hg : g < B) (h : w.heap[g]? = some (.cells #[a, b] t)) :
    (w1.cell? ⟨g, 0, none⟩ = some a ∧ w1.cell? ⟨g, 1, none⟩ = some b) ∧ (w1.frozen? ⟨g, 0, none⟩ = false ∧ w1.frozen? ⟨g, 1, none⟩ = false) := by
  have h1 : w1.heap[g]? = some (.cells #[a, b] t) := (hb.block g hg).trans h
  simp [World.cell?, World.frozen?, h1]
theorem blk3 {B g : Nat} {w w1 : World} {t : TypeId} {a b c : Value} (hb : Below B w w1) (hg : g < B) (h : w.heap[g]? = some (.cells #[a, b, c] t)) :
    (w1.cell? ⟨g, 0, none⟩ = some a ∧ w1.cell? ⟨g, 1, none⟩ = some b ∧ w1.cell? ⟨g, 2, none⟩ = some c) ∧
    (w1.frozen? ⟨g, 0, none⟩ = false ∧ w1.frozen? ⟨g, 1, none⟩ = false ∧ w1.frozen? ⟨g, 2, none⟩ = false) := by
  have h1 : w1.heap[g]? = some (.cells #[a, b, c] t) := (hb.block g hg).trans h
  simp [World.cell?, World.frozen?, h1]
theorem blk4 {B g : Nat} {w w1 : World} {t : TypeId} {a b c d : Value} (hb : Below B w w1) (hg : g < B) (h : w.heap[g]? = some (.cells #[a, b, c, d] t)) :
    (w1.cell? ⟨g, 0, none⟩ = some a ∧ w1.cell? ⟨g, 1, none⟩ = some b ∧ w1.cell? ⟨g, 2, none⟩ = some c ∧ w1.cell? ⟨g, 3, none⟩ = some d) ∧
    (w1.frozen? ⟨g, 0, none⟩ = false ∧ w1.frozen? ⟨g, 1, none⟩ = false ∧ w1.frozen? ⟨g, 2, none⟩ = false ∧ w1.frozen? ⟨g, 3, none⟩ = false) := by
  have h1 : w1.heap[g]? = some (.cells #[a, b, c, d] t) := (hb.block g hg).trans h
  simp [World.cell?, World.frozen?, h1]
theorem heap_alloc_at (w : World) (o : Obj) (g : Nat) (h : g = w.heap.size) : (w.alloc o).heap[g]? = some o := by
  subst h
  show (w.heap.push o)[w.heap.size]? = some o
  rw [Array.getElem?_push, if_pos rfl]
theorem heap_lt {w : World} {g : Nat} {o : Obj} (h : w.heap[g]? = some o) : g < w.heap.size := by
  rcases Nat.lt_or_ge g w.heap.size with h1 | h1
  · exact h1
  · rw [Array.getElem?_eq_none h1] at h; cases h
theorem heap_alloc_lt (w : World) (o o' : Obj) (g : Nat) (h : w.heap[g]? = some o') : (w.alloc o).heap[g]? = some o' := by
  rw [Below.heap_alloc _ _ _ (heap_lt h), h]
end Go.Proofs.YtjknnbeemcpppaaDoor.Base
