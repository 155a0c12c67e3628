/-
  Plain facts and contracts of small functions, several texts laid into one. Not a statement of the seat.
-/
import Derived.Test.YtpbkclciipmonaaRows
import Derived.WalkKit
import Derived.ProofKit
import Derived.OpenShut
import Derived.Handy
import Derived.WalkLawsBesides
import Derived.WalkSpells
import Derived.BigQuiet
import Derived.Deep.QuietTactic
import Derived.Laws.BitsAllLaws
import Derived.Lib.Hide
import Derived.Deep.Slices
import Derived.Deep.Fields
import Derived.ChangeSame
import Derived.Deep.DeepHandedRow
import Derived.Laws.AppendOwnNone
import Derived.Maps.AppendAt
import Derived.Deep.RegionLaw
import Derived.Laws.AppendOwn
import Derived.RegionTactic
import Derived.BigRegion
import Derived.Laws.Tables
import Derived.Laws.Rows
import Derived.Laws.CopyOwn
import Derived.Laws.BitsLemmas
import Derived.Shelf.Small.Bits
import Derived.Shelf.Strconv.Itoa0
import Derived.Shelf.Slices.Reverse
import Derived.Ground.Names2Prog
import Derived.Shelf.Slices.Clone
import Derived.Shelf.Slices.Cells
import Derived.Test.YtpbkclciipmonaaProg
import Derived.Laws.Slices
import Derived.OwnWalk
import Derived.Laws.OwnMore
import Derived.Deep.RegionHeld3
import Derived.Deep.OwnRows
import Derived.Lib.ItoaNum
import Derived.Deep.LoopGhost
namespace Go.Proofs.Ytpbkclciipmonaa.Base
open Go.ChangeShapes Go.WideShapes Go.ChangeAt Go.RowKit

theorem bcell {W w1 : World} (hb : Below W.heap.size W w1) : (∀ b o, b < W.heap.size → w1.cell? ⟨b, o, none⟩ = W.cell? ⟨b, o, none⟩) ∧ (∀ b o, b < W.heap.size → w1.frozen? ⟨b, o, none⟩ = W.frozen? ⟨b, o, none⟩) :=
  ⟨fun b o h => hb.cell (p := ⟨b, o, none⟩) h, fun b o h => hb.frozen (p := ⟨b, o, none⟩) h⟩
theorem u64_join (a b : Int) (i : Nat) (h0 : 0 ≤ a) (h1 : a < 18446744073709551616) (h2 : a % 2 ^ i = 0) (h3 : 0 ≤ b) (h4 : b < 2 ^ i) (h5 : b < 18446744073709551616) : bits .or .u64 a b = a + b := by
  rw [u64_or a b h0 h1 h3 h5, nat_join i a.toNat b.toNat]
  · omega
  · have : ((a.toNat % 2 ^ i : Nat) : Int) = 0 := by
      rw [Int.natCast_emod, Int.toNat_of_nonneg h0, Int.natCast_pow]; exact h2
    omega
  · have : ((b.toNat : Nat) : Int) < ((2 ^ i : Nat) : Int) := by rw [Int.toNat_of_nonneg h3, Int.natCast_pow]; exact h4
    omega
theorem u64_mask (a : Int) (i m : Nat) (hm : m = 2 ^ i - 1) (hi : i ≤ 63) (h0 : 0 ≤ a) (h1 : a < 18446744073709551616) : bits .and .u64 a (m : Int) = a % ((2 ^ i : Nat) : Int) := by
  subst hm
  have hp : 2 ^ i ≤ 2 ^ 63 := Nat.pow_le_pow_right (by omega) hi
  rw [u64_and a _ h0 h1 (by omega) (by omega), Int.toNat_natCast, Nat.and_two_pow_sub_one_eq_mod, Int.natCast_emod, Int.toNat_of_nonneg h0]
theorem ret_two {k : IntKind} {a b : Int} {v : Value} (h : a = b) : Ending.returned (.tuple #[.int k a, v]) = .returned (.tuple #[.int k b, v]) := by rw [h]
theorem ret_int {k : IntKind} {a b : Int} (h : a = b) : Ending.returned (.int k a) = .returned (.int k b) := by rw [h]
theorem ret_bool {a b : Bool} (h : a = b) : Ending.returned (.bool a) = .returned (.bool b) := by rw [h]
theorem below_drewN {B : Nat} {w w' : World} (h : Below B w w') (n : Nat) : Below B w (w'.drewN n) := ⟨h.os, h.tape, h.output, h.size, h.block⟩
theorem blk1 {B g : Nat} {w w1 : World} {t : TypeId} {a : Value} (hb : Below B w w1) (hg : g < B) (h : w.heap[g]? = some (.cells #[a] t)) :
    w1.cell? ⟨g, 0, none⟩ = some a ∧ w1.frozen? ⟨g, 0, none⟩ = false := by
  have h1 : w1.heap[g]? = some (.cells #[a] t) := (hb.block g hg).trans h
  simp [World.cell?, World.frozen?, h1]
theorem blk2 {B g : Nat} {w w1 : World} {t : TypeId} {a b : Value} (hb : Below B w w1) (hg : g < B) (h : w.heap[g]? = some (.cells #[a, b] t)) :
    (w1.cell? ⟨g, 0, none⟩ = some a ∧ w1.cell? ⟨g, 1, none⟩ = some b) ∧ (w1.frozen? ⟨g, 0, none⟩ = false ∧ w1.frozen? ⟨g, 1, none⟩ = false) := by
  have h1 : w1.heap[g]? = some (.cells #[a, b] t) := (hb.block g hg).trans h
  simp [World.cell?, World.frozen?, h1]
theorem blk3 {B g : Nat} {w w1 : World} {t : TypeId} {a b c : Value} (hb : Below B w w1) (hg : g < B) (h : w.heap[g]? = some (.cells #[a, b, c] t)) :
    (w1.cell? ⟨g, 0, none⟩ = some a ∧ w1.cell? ⟨g, 1, none⟩ = some b ∧ w1.cell? ⟨g, 2, none⟩ = some c) ∧
    (w1.frozen? ⟨g, 0, none⟩ = false ∧ w1.frozen? ⟨g, 1, none⟩ = false ∧ w1.frozen? ⟨g, 2, none⟩ = false) := by
  have h1 : w1.heap[g]? = some (.cells #[a, b, c] t) := (hb.block g hg).trans h
  simp [World.cell?, World.frozen?, h1]
theorem blk4 {B g : Nat} {w w1 : World} {t : TypeId} {a b c d : Value} (hb : Below B w w1) (hg : g < B) (h : w.heap[g]? = some (.cells #[a, b, c, d] t)) :
    (w1.cell? ⟨g, 0, none⟩ = some a ∧ w1.cell? ⟨g, 1, none⟩ = some b ∧ w1.cell? ⟨g, 2, none⟩ = some c ∧ w1.cell? ⟨g, 3, none⟩ = some d) ∧
    (w1.frozen? ⟨g, 0, none⟩ = false ∧ w1.frozen? ⟨g, 1, none⟩ = false ∧ w1.frozen? ⟨g, 2, none⟩ = false ∧ w1.frozen? ⟨g, 3, none⟩ = false) := by
  have h1 : w1.heap[g]? = some (.cells #[a, b, c, d] t) := (hb.block g hg).trans h
  simp [World.cell?, World.frozen?, h1]
theorem heap_alloc_at (w : World) (o : Obj) (g : Nat) (h : g = w.heap.size) : (w.alloc o).heap[g]? = some o := by
  subst h
  show (w.heap.push o)[w.heap.size]? = some o
  rw [Array.getElem?_push, if_pos rfl]
theorem heap_lt {w : World} {g : Nat} {o : Obj} (h : w.heap[g]? = some o) : g < w.heap.size := by
  rcases Nat.lt_or_ge g w.heap.size with h1 | h1
  · exact h1
  · rw [Array.getElem?_eq_none h1] at h; cases h
theorem heap_alloc_lt (w : World) (o o' : Obj) (g : Nat) (h : w.heap[g]? = some o') : (w.alloc o).heap[g]? = some o' := by
  rw [Below.heap_alloc _ _ _ (heap_lt h), h]
end Go.Proofs.Ytpbkclciipmonaa.Base
namespace Go.Proofs.Ytpbkclciipmonaa.F
open Go.ChangeShapes Go.WideShapes Go.ChangeAt Go.RowKit Base
section
open Go.Deep
variable {H : Type} {enc : TypeId × Value → H} {P : Program} {w : World}
/-- Is each cell of a type an int of 64 bits? (Structs in structs, too.) -/
def flatB (P : Program) : Nat → TypeId → Bool
  | 0, _ => false
  | n + 1, t => match P.underlying t with
    | some (.int k) => decide (k = .i64) && decide (P.cellsOf t = 1)
    | some (.struct fs) => fs.all (fun f => flatB P n f.type) && (List.range (P.cellsOf t)).all fun i => fs.any fun f => decide (f.offset ≤ i ∧ i < f.offset + P.cellsOf f.type)
    | _ => false
/-- An int of 64 bits. -/
def is64 (z : Int) : Prop := -9223372036854775808 ≤ z ∧ z ≤ 9223372036854775807
theorem flat_cells : ∀ (n : Nat) (t : TypeId), flatB P n t = true → ∀ (base : Nat) (spare : Nat → Bool) (held : Bool) (fuel : Nat) (cs : List Value) (x : DataW H × List MemPlace), DataW.trod enc P w base spare held fuel t cs = some x → ∀ i, i < P.cellsOf t → ∃ z, cs[i]? = some (.int .i64 z) ∧ is64 z
  | 0, _, h => by simp [flatB] at h
  | n + 1, t, h => by
    intro base spare held fuel cs x hx i hi
    unfold flatB at h
    split at h
    · next k hk =>
      rw [Bool.and_eq_true] at h
      have e1 := of_decide_eq_true h.1
      have e2 := of_decide_eq_true h.2
      subst e1
      obtain ⟨z, rfl, _, hw⟩ := DataW.trod_int hk hx
      have : i = 0 := by omega
      subst this
      exact ⟨z, rfl, bounds_i64 hw⟩
    · next fs hs =>
      rw [Bool.and_eq_true] at h
      obtain ⟨h1, h2⟩ := h
      obtain ⟨xs, n', _, _, hcl, hxl, hg⟩ := DataW.trod_struct hs hx
      have h3 := List.all_eq_true.1 h2 i (List.mem_range.2 hi)
      rw [Array.any_eq_true] at h3
      obtain ⟨j, hj, h3⟩ := h3
      have h4 := of_decide_eq_true h3
      have h5 := hg j fs[j] (Array.getElem?_eq_getElem hj)
      rw [List.getElem?_eq_getElem (by omega)] at h5
      have h6 : flatB P n fs[j].type = true := by
        rw [Array.all_eq_true] at h1
        exact h1 j hj
      obtain ⟨z, hz, hb⟩ := flat_cells n _ h6 _ _ _ _ _ _ h5 (i - fs[j].offset) (by omega)
      refine ⟨z, ?_, hb⟩
      rw [List.getElem?_take, if_pos (by omega), List.getElem?_drop] at hz
      rw [← hz]
      congr 1
      omega
    · cases h
/-- A slice of such structs. -/
theorem open_flat {r : Reach} {b0 n : Nat} {t e : TypeId} {v : Value} {d : DataW H} {p : List MemPlace} (ht : P.underlying t = some (.slice e)) (hf : flatB P n e = true) (hpos : 0 < P.cellsOf e) (hv : Value.okWide P w r b0 t v) (h : DataW.Trod enc P w 0 (fun _ => true) true t v d p) :
    ∃ (q : Option Addr) (len cap : Nat) (G : Nat → Nat → Int), v = .slice q len cap ∧ (q = none → cap = 0) ∧ len ≤ cap ∧ len ≤ 9223372036854775807 ∧ (∀ k j, is64 (G k j)) ∧ ∀ k, k < len → ∃ g o, q = some ⟨g, o, none⟩ ∧ g < w.heap.size ∧ ∀ j, j < P.cellsOf e → w.cell? ⟨g, o + k * P.cellsOf e + j, none⟩ = some (.int .i64 (G k j)) := by
  obtain ⟨a0, len, cap, rfl⟩ := okWide_slice ht hv
  obtain ⟨fuel, hfu⟩ := h
  rcases open_slice ht hfu with ⟨hcs, _⟩ | ⟨a, len', cap', m, n', D, Pl, hcs, _, hl, hm, hmm, _, hel⟩
  · simp [Value.cells] at hcs
    obtain ⟨rfl, rfl, rfl⟩ := hcs
    exact ⟨none, 0, 0, fun _ _ => 0, rfl, fun _ => rfl, by omega, by omega, fun _ _ => (show is64 0 from ⟨by decide, by decide⟩), fun k hk => absurd hk (by omega)⟩
  · simp [Value.cells] at hcs
    obtain ⟨rfl, rfl, rfl⟩ := hcs
    simp only [if_true] at hmm
    have key : ∀ k, ∀ j, ∃ z : Int, is64 z ∧ (k < len → j < P.cellsOf e → w.cell? ((a.add (k * P.cellsOf e)).add j) = some (.int .i64 z)) := fun k j => by
      by_cases hk : k < len ∧ j < P.cellsOf e
      · obtain ⟨cs', hc, ht'⟩ := hel k (by omega)
        obtain ⟨_, hcl, hat⟩ := World.cells?_some hc
        obtain ⟨z, hz, hb⟩ := flat_cells n e hf _ _ _ _ _ _ ht' j hk.2
        exact ⟨z, hb, fun _ _ => (hat j hk.2).trans hz⟩
      · exact ⟨0, ⟨by decide, by decide⟩, fun h1 h2 => absurd ⟨h1, h2⟩ hk⟩
    have hG : ∃ G : Nat → Nat → Int, ∀ k j, is64 (G k j) ∧ (k < len → j < P.cellsOf e → w.cell? ((a.add (k * P.cellsOf e)).add j) = some (.int .i64 (G k j))) := by
      obtain ⟨G, hG⟩ := Classical.axiomOfChoice fun k => Classical.axiomOfChoice (key k)
      exact ⟨G, hG⟩
    obtain ⟨G, hG⟩ := hG
    refine ⟨some a, len, cap, G, rfl, (fun e => by cases e), hl, by simp only [maxLen] at hm; omega, fun k j => (hG k j).1, fun k hk => ?_⟩
    obtain ⟨b, off, spot⟩ := a
    have h0 := (hG k 0).2 hk hpos
    have hspot : spot = none := by
      have h9 := World.cell?_spot ((hG 0 0).2 (by omega) hpos)
      simpa [Addr.add] using h9
    subst hspot
    refine ⟨b, off, rfl, ?_, fun j hj => ?_⟩
    · rw [add_plain, add_plain] at h0
      exact World.block_lt_of_cell? w _ h0
    · have := (hG k j).2 hk hj
      rwa [add_plain, add_plain] at this
/-- Such a struct by value. -/
theorem open_flat1 {r : Reach} {b0 n : Nat} {t : TypeId} {v : Value} {d : DataW H} {p : List MemPlace} {base : Nat} {spare : Nat → Bool} {held : Bool} {fs : Array Field} (hs : P.underlying t = some (.struct fs)) (hf : flatB P n t = true) (hv : Value.okWide P w r b0 t v) (h : DataW.Trod enc P w base spare held t v d p) :
    ∃ G : Nat → Int, (∀ j, is64 (G j)) ∧ v = .agg (((List.range (P.cellsOf t)).map fun j => Value.int .i64 (G j)).toArray) := by
  obtain ⟨cs, rfl, hsz⟩ := okWide_struct hs hv
  obtain ⟨fuel, hfu⟩ := h
  have key : ∀ j, ∃ z : Int, is64 z ∧ (j < P.cellsOf t → cs[j]? = some (.int .i64 z)) := fun j => by
    by_cases hj : j < P.cellsOf t
    · obtain ⟨z, hz, hb⟩ := flat_cells n t hf _ _ _ _ _ _ hfu j hj
      exact ⟨z, hb, fun _ => by simpa [Value.cells] using hz⟩
    · exact ⟨0, ⟨by decide, by decide⟩, fun h => absurd h hj⟩
  obtain ⟨G, hG⟩ := Classical.axiomOfChoice key
  refine ⟨G, fun j => (hG j).1, ?_⟩
  congr 1
  apply Array.ext_getElem?
  intro j
  by_cases hj : j < P.cellsOf t
  · rw [(hG j).2 hj]
    simp [hj]
  · rw [Array.getElem?_eq_none (by rw [hsz]; omega), Array.getElem?_eq_none (by simp; omega)]
end
end Go.Proofs.Ytpbkclciipmonaa.F
namespace Go.Proofs.Ytpbkclciipmonaa.F
open Go.ChangeShapes Go.WideShapes Go.ChangeAt Go.RowKit Base
/-- A value of the struct. -/
structure Cel where
  l : Int
  r : Int
  k : Int
  v : Int
  s : Int
  h : Int
def Cel.zero : Cel := ⟨0, 0, 0, 0, 0, 0⟩
/-- Its cells. -/
def Cel.vals (x : Cel) : List Value := [.int .i64 x.l, .int .i64 x.r, .int .i64 x.k, .int .i64 x.v, .int .i64 x.s, .int .i64 x.h]
/-- Its fields are ints of 64 bits. -/
def Cel.ok (x : Cel) : Prop := (-9223372036854775808 ≤ x.l ∧ x.l ≤ 9223372036854775807) ∧ (-9223372036854775808 ≤ x.r ∧ x.r ≤ 9223372036854775807) ∧ (-9223372036854775808 ≤ x.k ∧ x.k ≤ 9223372036854775807) ∧ (-9223372036854775808 ≤ x.v ∧ x.v ≤ 9223372036854775807) ∧ (-9223372036854775808 ≤ x.s ∧ x.s ≤ 9223372036854775807) ∧ (-9223372036854775808 ≤ x.h ∧ x.h ≤ 9223372036854775807)
/-- The slice v, whose elements lie from block base on, holds xs. -/
def Cels (base : Nat) (w : World) (v : Value) (xs : List Cel) : Prop :=
  ((∃ p c, v = .slice p 0 c ∧ (p = none → c = 0)) ∧ xs = []) ∨ ∃ g o c, v = .slice (some ⟨g, o, none⟩) xs.length c ∧ base ≤ g ∧ g < w.heap.size ∧ xs.length ≤ 9223372036854775807 ∧ ∀ k, k < xs.length →
    w.cell? ⟨g, o + k * 6, none⟩ = some (.int .i64 (xs.getD k Cel.zero).l) ∧ w.cell? ⟨g, o + k * 6 + 1, none⟩ = some (.int .i64 (xs.getD k Cel.zero).r) ∧ w.cell? ⟨g, o + k * 6 + 2, none⟩ = some (.int .i64 (xs.getD k Cel.zero).k) ∧ w.cell? ⟨g, o + k * 6 + 3, none⟩ = some (.int .i64 (xs.getD k Cel.zero).v) ∧ w.cell? ⟨g, o + k * 6 + 4, none⟩ = some (.int .i64 (xs.getD k Cel.zero).s) ∧ w.cell? ⟨g, o + k * 6 + 5, none⟩ = some (.int .i64 (xs.getD k Cel.zero).h)
theorem Cels.kept {base base' : Nat} {w w1 : World} {v : Value} {xs : List Cel} (h : Cels base w v xs) (hb : ∀ g, base ≤ g → g < w.heap.size → w1.heap[g]? = w.heap[g]? ∧ base' ≤ g) (hs : w.heap.size ≤ w1.heap.size) : Cels base' w1 v xs := by
  rcases h with h | ⟨g, o, c, hv, h0, h1, h2, h3⟩
  · exact .inl h
  · refine .inr ⟨g, o, c, hv, (hb g h0 h1).2, Nat.lt_of_lt_of_le h1 hs, h2, fun k hk => ?_⟩
    have key : ∀ j, w1.cell? ⟨g, j, none⟩ = w.cell? ⟨g, j, none⟩ := fun j => World.cell?_of_block (a := ⟨g, j, none⟩) (hb g h0 h1).1
    simp only [key]
    exact h3 k hk
theorem Cels.below {base : Nat} {w w1 : World} {v : Value} {xs : List Cel} (h : Cels base w v xs) (hb : Below w.heap.size w w1) : Cels base w1 v xs :=
  h.kept (fun g h0 h1 => ⟨hb.block g h1, h0⟩) hb.size
theorem Cels.grown {base : Nat} {w w1 : World} {v : Value} {xs : List Cel} {x : Option Nat} (h : Cels base w v xs) (hg : w.grownBy w1 x) (hx : ∀ b, x = some b → b < base) : Cels base w1 v xs :=
  h.kept (fun g h0 h1 => ⟨hg.block g h1 (fun e => by have := hx g e.symm; omega), h0⟩) hg.size
theorem Cels.mono {base base' : Nat} {w : World} {v : Value} {xs : List Cel} (h : Cels base w v xs) (hb : base' ≤ base) : Cels base' w v xs :=
  h.kept (fun _ h0 _ => ⟨rfl, Nat.le_trans hb h0⟩) (Nat.le_refl _)
theorem Cels.open_ {base : Nat} {w : World} {v : Value} {xs : List Cel} (h : Cels base w v xs) : ∃ p c, v = .slice p xs.length c ∧ xs.length ≤ 9223372036854775807 ∧ ∀ k, k < xs.length → ∃ g o, p = some ⟨g, o, none⟩ ∧ base ≤ g ∧ g < w.heap.size ∧
    w.cell? ⟨g, o + k * 6, none⟩ = some (.int .i64 (xs.getD k Cel.zero).l) ∧ w.cell? ⟨g, o + k * 6 + 1, none⟩ = some (.int .i64 (xs.getD k Cel.zero).r) ∧ w.cell? ⟨g, o + k * 6 + 2, none⟩ = some (.int .i64 (xs.getD k Cel.zero).k) ∧ w.cell? ⟨g, o + k * 6 + 3, none⟩ = some (.int .i64 (xs.getD k Cel.zero).v) ∧ w.cell? ⟨g, o + k * 6 + 4, none⟩ = some (.int .i64 (xs.getD k Cel.zero).s) ∧ w.cell? ⟨g, o + k * 6 + 5, none⟩ = some (.int .i64 (xs.getD k Cel.zero).h) := by
  rcases h with ⟨⟨p, c, hv⟩, rfl⟩ | ⟨g, o, c, hv, h0, h1, h2, h3⟩
  · exact ⟨p, c, hv.1, by simp, fun k hk => absurd hk (by simp)⟩
  · exact ⟨_, c, hv, h2, fun k hk => ⟨g, o, rfl, h0, h1, h3 k hk⟩⟩
theorem Cels.nil {base : Nat} {w : World} : Cels base w (.slice none 0 0) [] := .inl ⟨⟨_, _, rfl, fun _ => rfl⟩, rfl⟩
theorem cel_flat_len (zs : List Cel) : (zs.flatMap Cel.vals).length = zs.length * 6 := by
  induction zs with
  | nil => rfl
  | cons x zs ih => rw [List.flatMap_cons, List.length_append, ih]; simp [Cel.vals]; omega
theorem cel_flat_get : ∀ (zs : List Cel) (k j : Nat), k < zs.length → j < 6 → (zs.flatMap Cel.vals)[k * 6 + j]? = (Cel.vals (zs.getD k Cel.zero))[j]?
  | x :: zs, 0, j, _, hj => by
    rw [List.flatMap_cons, List.getElem?_append_left (by simp [Cel.vals]; omega)]
    simp
  | x :: zs, k + 1, j, hk, hj => by
    rw [List.flatMap_cons, List.getElem?_append_right (by simp [Cel.vals]; omega), show (k + 1) * 6 + j - (Cel.vals x).length = k * 6 + j by simp [Cel.vals]; omega, cel_flat_get zs k j (by simpa using hk) hj]
    rfl
theorem cel_flat_take (zs : List Cel) (m : Nat) : (zs.flatMap Cel.vals).take (m * 6) = (zs.take m).flatMap Cel.vals := by
  induction zs generalizing m with
  | nil => simp
  | cons x zs ih =>
    cases m with
    | zero => simp
    | succ m =>
      rw [List.flatMap_cons, List.take_succ_cons, List.flatMap_cons, ← ih m, List.take_append, List.take_of_length_le (by simp [Cel.vals]; omega)]
      congr 2
      simp [Cel.vals]; omega
theorem cel_vals_one (zs : List Cel) : ∀ u ∈ zs.flatMap Cel.vals, u.oneCell' = true := by
  intro u hu
  obtain ⟨x, _, hx⟩ := List.mem_flatMap.1 hu
  simp only [Cel.vals, List.mem_cons, List.not_mem_nil, or_false] at hx
  rcases hx with rfl | rfl | rfl | rfl | rfl | rfl <;> rfl
/-- The slice v, which the call made itself from block B on, holds zs. -/
def OwnCel (B : Nat) (w : World) (v : Value) (zs : List Cel) : Prop := w.ownsRow B 86 6 v zs.length (zs.flatMap Cel.vals)
theorem OwnCel.nil (B : Nat) (w : World) : OwnCel B w (.slice none 0 0) [] := World.ownsRow_nil _ _ _ _
theorem OwnCel.list {B : Nat} {w : World} {v : Value} {zs : List Cel} (h : OwnCel B w v zs) (hl : zs.length ≤ 9223372036854775807) : Cels B w v zs := by
  have h' := h
  rcases h.2 with ⟨hv, h0⟩ | ⟨g, cap, cur, hv, hB, h2, _⟩
  · exact .inl ⟨⟨_, _, hv, fun _ => rfl⟩, List.length_eq_zero_iff.1 h0⟩
  · subst hv
    have hc : ∀ k j, k < zs.length → j < 6 → w.cell? ⟨g, 0 + k * 6 + j, none⟩ = (Cel.vals (zs.getD k Cel.zero))[j]? := fun k j hk hj => by
      rw [Nat.zero_add, ← cel_flat_get zs k j hk hj]
      exact World.ownsRow.cellAt h' (k * 6 + j) (by omega)
    exact .inr ⟨g, 0, cap, rfl, hB, heap_lt h2, hl, fun k hk => ⟨hc k 0 hk (by omega), hc k 1 hk (by omega), hc k 2 hk (by omega), hc k 3 hk (by omega), hc k 4 hk (by omega), hc k 5 hk (by omega)⟩⟩
theorem OwnCel.kept {B : Nat} {w w1 : World} {v : Value} {zs : List Cel} (h : OwnCel B w v zs) {row : Option Nat} (hg : w.grownBy w1 row) (hne : v.ownBlock = none ∨ v.ownBlock ≠ row) : OwnCel B w1 v zs := World.ownsRow.kept h hg hne
theorem OwnCel.below {B : Nat} {w w1 : World} {v : Value} {zs : List Cel} (h : OwnCel B w v zs) (hb : Below w.heap.size w w1) : OwnCel B w1 v zs :=
  World.ownsRow.kept h (row := none) ⟨hb.os, hb.tape, hb.output, hb.size, fun k hk _ => hb.block k hk⟩ (by cases v.ownBlock <;> simp)
theorem OwnCel.base {B : Nat} {w : World} {v : Value} {zs : List Cel} (h : OwnCel B w v zs) : ∀ k, v.ownBlock = some k → B ≤ k ∧ k < w.heap.size := World.ownsRow.lt h
/-- The first m of it, in the same place. -/
theorem OwnCel.cut {B : Nat} {w : World} {p : Option Addr} {n c : Nat} {zs : List Cel} (h : OwnCel B w (.slice p n c) zs) {m : Nat} (hm : m ≤ zs.length) : OwnCel B w (.slice p m c) (zs.take m) := by
  obtain ⟨hl, h⟩ := h
  have hlen : (zs.take m).length = m := by rw [List.length_take]; omega
  refine ⟨by rw [cel_flat_len], ?_⟩
  rw [hlen]
  rcases h with ⟨hv, h0⟩ | ⟨g, cap, cur, hv, h1, h2, h3, h4, h5, h6⟩
  · injection hv with e1 e2 e3
    subst e1 e3
    obtain rfl : m = 0 := by omega
    exact .inl ⟨rfl, rfl⟩
  · injection hv with e1 e2 e3
    subst e1 e3
    refine .inr ⟨g, c, cur, rfl, h1, h2, by omega, h4, h5, ?_⟩
    rw [← cel_flat_take, ← h6, List.take_take]
    congr 1
    have := Nat.mul_le_mul_right 6 hm
    omega
theorem cel_info : (Try.prog.info? 86).map (fun i => (i.zero, i.size, i.bytes)) = some (some (.agg #[.int .i64 0, .int .i64 0, .int .i64 0, .int .i64 0, .int .i64 0, .int .i64 0]), 6, 48) := by kernel_rfl
theorem run_append_cels {B base : Nat} {w : World} {v u : Value} {zs ys : List Cel} (ty : TypeId)
    (hB : B ≤ w.heap.size) (hown : OwnCel B w v zs) (hys : Cels base w u ys) (hl : zs.length + ys.length ≤ 1000000) :
    ∃ v' w', (Builtin.append_ #[74, 74] ty #[v, u]).run Try.prog w = .ok v' w' ∧ OwnCel B w' v' (zs ++ ys) ∧ w.grownBy w' v.ownBlock ∧ (v'.ownBlock = v.ownBlock ∨ v'.ownBlock = some w.heap.size) := by
  obtain ⟨i0, hi, hz0, hz1, hz2⟩ := info_parts cel_info
  rcases hys with ⟨⟨p, c, rfl, hpc⟩, rfl⟩ | ⟨g, o', c, rfl, _, _, _, hc⟩
  · cases p with
    | none =>
      obtain rfl := hpc rfl
      exact ⟨v, w, run_append_owned_none (P := Try.prog) (w := w) B 74 ty 86 i0 6 Try.underlying74 hi v zs.length (zs.flatMap Cel.vals) hown, by rw [List.append_nil]; exact hown, World.grownBy.refl _ _, .inl rfl⟩
    | some ad =>
      obtain ⟨v', w', hr, h2, h3, _, h5⟩ := run_append_own_at (P := Try.prog) w B 74 ty 86 i0 (.agg #[.int .i64 0, .int .i64 0, .int .i64 0, .int .i64 0, .int .i64 0, .int .i64 0]) 6 48 Try.underlying74 hi hz0 hz1 hz2 rfl (by decide) v zs.length (zs.flatMap Cel.vals) hown ad 0 c [] (by simp) (by simp) (by simp) (by simp only [maxLen]; omega) (by omega) hB
      refine ⟨v', w', hr, ?_, h3, h5⟩
      rw [List.append_nil]
      unfold OwnCel
      simpa using h2
  · obtain ⟨v', w', hr, h2, h3, _, h5⟩ := run_append_own_at (P := Try.prog) w B 74 ty 86 i0 (.agg #[.int .i64 0, .int .i64 0, .int .i64 0, .int .i64 0, .int .i64 0, .int .i64 0]) 6 48 Try.underlying74 hi hz0 hz1 hz2 rfl (by decide) v zs.length (zs.flatMap Cel.vals) hown ⟨g, o', none⟩ ys.length c (ys.flatMap Cel.vals) (cel_flat_len ys) (by
      intro t y hy
      have ht : t < ys.length * 6 := by rw [← cel_flat_len ys]; exact (List.getElem?_eq_some_iff.1 hy).1
      have hk : t / 6 < ys.length := by omega
      have hr : t % 6 < 6 := Nat.mod_lt _ (by decide)
      have e : t = t / 6 * 6 + t % 6 := by omega
      have hcc := hc (t / 6) hk
      rw [e, cel_flat_get ys _ _ hk hr] at hy
      rw [add_plain, e]
      generalize t / 6 = k at hcc hy
      generalize t % 6 = j at hr hy
      obtain ⟨c0, c1, c2, c3, c4, c5⟩ := hcc
      match j, hr, hy with
      | 0, _, hy => simp [Cel.vals] at hy; subst hy; simpa [Nat.add_assoc] using c0
      | 1, _, hy => simp [Cel.vals] at hy; subst hy; simpa [Nat.add_assoc] using c1
      | 2, _, hy => simp [Cel.vals] at hy; subst hy; simpa [Nat.add_assoc] using c2
      | 3, _, hy => simp [Cel.vals] at hy; subst hy; simpa [Nat.add_assoc] using c3
      | 4, _, hy => simp [Cel.vals] at hy; subst hy; simpa [Nat.add_assoc] using c4
      | 5, _, hy => simp [Cel.vals] at hy; subst hy; simpa [Nat.add_assoc] using c5) (cel_vals_one ys) (by simp only [maxLen]; omega) (by omega) hB
    refine ⟨v', w', hr, ?_, h3, h5⟩
    unfold OwnCel
    rw [List.length_append, List.flatMap_append]
    exact h2
/-- Some are put behind a slice of the call's own. -/
theorem append_cels {ops : Array Oper} {rest : List Oper} {o : Oper} {a : Act} {Q : Exit → Act → World → Prop} (hgd : o.guard = none) (s x : Operand)
    (ho : o.op = .call { callee := .builtin .append, args := #[s, x], argTypes := #[74, 74] }) {B base : Nat} {w : World} {v u : Value} {zs ys : List Cel}
    (hB : B ≤ w.heap.size) (hown : OwnCel B w v zs) (hs : a.eval s = v) (hys : Cels base w u ys) (hx : a.eval x = u) (hl : zs.length + ys.length ≤ 1000000)
    (h : ∀ v' w', OwnCel B w' v' (zs ++ ys) → w.grownBy w' v.ownBlock → (v'.ownBlock = v.ownBlock ∨ v'.ownBlock = some w.heap.size) → wpList Try.prog ops Q rest (a.put o.dst v') w') :
    wpList Try.prog ops Q (o :: rest) a w := by
  refine wpList_plain hgd fun K hK => ?_
  obtain ⟨v', w', hr, h2, h3, h5⟩ := run_append_cels o.type hB hown hys hl
  unfold Oper.wp execOp
  simp only [ho, resolve, invoke, builtin, Sem.run_bind, Sem.run_pure, Result.andThen_ok, List.map_toArray, List.map_cons, List.map_nil, hs, hx, hr]
  exact hK _ _ (h v' w' h2 h3 h5)
/-- The same, as one step of a region that draws its order. -/
theorem step_append_cels {ops : Array Oper} {o : Oper} {a : Act} {w : World} {K : Act → World → Prop} {Q : Exit → Act → World → Prop} {E : Prop} (hgd : o.guard = none) (s x : Operand)
    (ho : o.op = .call { callee := .builtin .append, args := #[s, x], argTypes := #[74, 74] }) {B base : Nat} {v u : Value} {zs ys : List Cel}
    (hB : B ≤ w.heap.size) (hown : OwnCel B w v zs) (hs : a.eval s = v) (hys : Cels base w u ys) (hx : a.eval x = u) (hl : zs.length + ys.length ≤ 1000000)
    (hK : ∀ v' w', OwnCel B w' v' (zs ++ ys) → w.grownBy w' v.ownBlock → (v'.ownBlock = v.ownBlock ∨ v'.ownBlock = some w.heap.size) → K (a.put o.dst v') w') :
    if Region.wanted o (yielded ops a.tmps) = true then Oper.wp Try.prog o a w K Q else E := by
  rw [if_pos (by simp [Region.wanted, hgd])]
  obtain ⟨v', w', hr, h2, h3, h5⟩ := run_append_cels o.type hB hown hys hl
  unfold Oper.wp
  simp [execOp, ho, resolve, invoke, builtin, hs, hx, hr, Result.andThen]
  exact hK v' w' h2 h3 h5
theorem OwnCel.lay {B : Nat} {w X : World} {v : Value} {zs : List Cel} (h : OwnCel B w v zs) (hx : X.heap = w.heap) (o : Obj) : OwnCel B (X.alloc o) v zs := by
  have h1 : OwnCel B X v zs := by
    unfold OwnCel World.ownsRow at *
    rw [hx]
    exact h
  exact World.ownsRow.alloc h1 o
theorem ownCel_empty {B : Nat} {W : World} {g : Nat} (hB : B ≤ g) (h : W.heap[g]? = some (.cells #[] 86)) : OwnCel B W (.slice (some ⟨g, 0, none⟩) 0 0) [] :=
  ⟨rfl, .inr ⟨g, 0, #[], rfl, hB, h, Nat.le_refl _, by simp [maxLen], rfl, rfl⟩⟩
/-- One that is typed out. -/
theorem cel_at {X : World} {g : Nat} (c : Cel) (h : X.heap[g]? = some (.cells #[.int .i64 c.l, .int .i64 c.r, .int .i64 c.k, .int .i64 c.v, .int .i64 c.s, .int .i64 c.h] 86)) : Cels 0 X (.slice (some ⟨g, 0, none⟩) 1 1) [c] := by
  refine .inr ⟨g, 0, 1, rfl, Nat.zero_le _, heap_lt h, by simp, fun k hk => ?_⟩
  have : k = 0 := by simpa using hk
  subst this
  simp only [World.cell?, h]
  simp
theorem cel_lit (c : Cel) (X : World) : Cels 0 (X.alloc (.cells #[.int .i64 c.l, .int .i64 c.r, .int .i64 c.k, .int .i64 c.v, .int .i64 c.s, .int .i64 c.h] 86)) (.slice (some ⟨X.heap.size, 0, none⟩) 1 1) [c] := cel_at c (heap_alloc_at _ _ _ rfl)

theorem cel_flat : flatB Try.prog 8 86 = true := by kernel_rfl
theorem cel_cells : Try.prog.cellsOf 86 = 6 := by kernel_rfl
section
variable {H : Type} {enc : TypeId × Value → H} {w : World}
set_option maxRecDepth 100000 in
theorem open_cels {r : Reach} {b0 : Nat} {v : Value} {d : DataW H} {p : List MemPlace} (hv : Value.okWide Try.prog w r b0 74 v) (h : DataW.Trod enc Try.prog w 0 (fun _ => true) true 74 v d p) : ∃ xs, (∃ p c, v = .slice p xs.length c ∧ xs.length ≤ c) ∧ Cels 0 w v xs ∧ ∀ x ∈ xs, Cel.ok x := by
  obtain ⟨q, len, cap, G, rfl, hqc, hlc, hl, hG, hc⟩ := open_flat Try.underlying74 cel_flat (by rw [cel_cells]; decide) hv h
  rw [cel_cells] at hc
  have hlen : ((List.range len).map fun k => (⟨G k 0, G k 1, G k 2, G k 3, G k 4, G k 5⟩ : Cel)).length = len := by simp
  refine ⟨(List.range len).map fun k => ⟨G k 0, G k 1, G k 2, G k 3, G k 4, G k 5⟩, ⟨q, cap, by rw [hlen], by rw [hlen]; exact hlc⟩, ?_, fun x hx => ?_⟩
  · by_cases h0 : len = 0
    · subst h0
      exact .inl ⟨⟨_, _, rfl, hqc⟩, rfl⟩
    · obtain ⟨g, o, hq, hg, _⟩ := hc 0 (by omega)
      subst hq
      refine .inr ⟨g, o, cap, by rw [hlen], Nat.zero_le _, hg, by rw [hlen]; exact hl, fun k hk => ?_⟩
      rw [hlen] at hk
      obtain ⟨g', o', hq, _, hcc⟩ := hc k hk
      simp only [Option.some.injEq, Addr.mk.injEq, and_true] at hq
      obtain ⟨rfl, rfl⟩ := hq
      have hget : ((List.range len).map fun k => (⟨G k 0, G k 1, G k 2, G k 3, G k 4, G k 5⟩ : Cel)).getD k Cel.zero = ⟨G k 0, G k 1, G k 2, G k 3, G k 4, G k 5⟩ := by simp [List.getD_eq_getElem?_getD, hk]
      rw [hget]
      exact ⟨hcc 0 (by omega), hcc 1 (by omega), hcc 2 (by omega), hcc 3 (by omega), hcc 4 (by omega), hcc 5 (by omega)⟩
  · obtain ⟨k, _, rfl⟩ := List.mem_map.1 hx
    exact ⟨hG k 0, hG k 1, hG k 2, hG k 3, hG k 4, hG k 5⟩
set_option maxRecDepth 100000 in
theorem open_cel {r : Reach} {b0 : Nat} {v : Value} {d : DataW H} {p : List MemPlace} {base : Nat} {spare : Nat → Bool} {held : Bool} (hv : Value.okWide Try.prog w r b0 86 v) (h : DataW.Trod enc Try.prog w base spare held 86 v d p) : ∃ x : Cel, Cel.ok x ∧ v = .agg #[.int .i64 x.l, .int .i64 x.r, .int .i64 x.k, .int .i64 x.v, .int .i64 x.s, .int .i64 x.h] := by
  obtain ⟨G, hG, hv'⟩ := open_flat1 Try.underlying86 cel_flat hv h
  rw [cel_cells] at hv'
  exact ⟨⟨G 0, G 1, G 2, G 3, G 4, G 5⟩, ⟨hG 0, hG 1, hG 2, hG 3, hG 4, hG 5⟩, hv'⟩
end
end Go.Proofs.Ytpbkclciipmonaa.F
namespace Go.Proofs.Ytpbkclciipmonaa.F
open Go.ChangeShapes Go.WideShapes Go.ChangeAt Go.RowKit Base
/-- w' is w, but for the blocks of F, and new ones. -/
def Fr (F : Nat → Prop) (w w' : World) : Prop := w'.os = w.os ∧ w'.tape = w.tape ∧ w'.output = w.output ∧ w.heap.size ≤ w'.heap.size ∧ ∀ g, g < w.heap.size → ¬ F g → w'.heap[g]? = w.heap[g]?
theorem Fr.refl (F : Nat → Prop) (w : World) : Fr F w w := ⟨rfl, rfl, rfl, Nat.le_refl _, fun _ _ _ => rfl⟩
theorem Fr.size {F : Nat → Prop} {w w' : World} (h : Fr F w w') : w.heap.size ≤ w'.heap.size := h.2.2.2.1
theorem Fr.block {F : Nat → Prop} {w w' : World} (h : Fr F w w') {g : Nat} (hg : g < w.heap.size) (hF : ¬ F g) : w'.heap[g]? = w.heap[g]? := h.2.2.2.2 g hg hF
theorem Fr.trans {F F' : Nat → Prop} {w w1 w2 : World} (h : Fr F w w1) (k : Fr F' w1 w2) (hF : ∀ g, g < w.heap.size → F' g → F g) : Fr F w w2 :=
  ⟨k.1.trans h.1, k.2.1.trans h.2.1, k.2.2.1.trans h.2.2.1, Nat.le_trans h.size k.size, fun g hg hn => (k.block (Nat.lt_of_lt_of_le hg h.size) (fun e => hn (hF g hg e))).trans (h.block hg hn)⟩
theorem Fr.mono {F F' : Nat → Prop} {w w' : World} (h : Fr F w w') (hF : ∀ g, F g → F' g) : Fr F' w w' := ⟨h.1, h.2.1, h.2.2.1, h.size, fun _ hg hn => h.block hg (fun e => hn (hF _ e))⟩
theorem Fr.of_below {F : Nat → Prop} {w w' : World} (h : Below w.heap.size w w') : Fr F w w' := ⟨h.os, h.tape, h.output, h.size, fun g hg _ => h.block g hg⟩
theorem Fr.of_grown {F : Nat → Prop} {w w' : World} {row : Option Nat} (h : w.grownBy w' row) (hr : ∀ k, row = some k → F k) : Fr F w w' := ⟨h.os, h.tape, h.output, h.size, fun g hg hn => h.block g hg (fun e => hn (hr g e.symm))⟩
theorem Fr.below {F : Nat → Prop} {B : Nat} {w w' : World} (h : Fr F w w') (hF : ∀ g, F g → B ≤ g) (hB : B ≤ w.heap.size) : Below B w w' :=
  ⟨h.1, h.2.1, h.2.2.1, h.size, fun g hg => h.block (Nat.lt_of_lt_of_le hg hB) (fun e => by have := hF g e; omega)⟩
theorem Fr.drewN {F : Nat → Prop} {w w' : World} (h : Fr F w w') (n : Nat) : Fr F w (w'.drewN n) := h
theorem Fr.alloc {F : Nat → Prop} {w w' : World} (h : Fr F w w') (o : Obj) : Fr F w (w'.alloc o) :=
  h.trans (Fr.of_below (F := fun _ => False) ((Below.refl _ _).alloc (Nat.le_refl _) o)) (fun _ _ e => e.elim)
/-- A row of the call's own lies in no block of another type. -/
theorem own_ne {w : World} {B : Nat} {e T : TypeId} {v : Value} {n size : Nat} {xs : List Value} {b : Nat} {cs : Array Value} {fr : Nat × Nat} (hown : w.ownsRow B e size v n xs) (hb : w.heap[b]? = some (.cells cs T fr)) (hTe : T ≠ e) : v.ownBlock ≠ some b := by
  rcases hown.2 with ⟨rfl, _⟩ | ⟨g, cap, cur, rfl, _, hg, _⟩
  · simp [Value.ownBlock]
  · intro h
    simp only [Value.ownBlock, Option.some.injEq] at h
    subst h
    rw [hg] at hb
    simp only [Option.some.injEq, Obj.cells.injEq] at hb
    exact hTe hb.2.1.symm
end Go.Proofs.Ytpbkclciipmonaa.F
namespace Go.Proofs.Ytpbkclciipmonaa.F
open Go.ChangeShapes Go.WideShapes Go.ChangeAt Go.RowKit Base
/-- Each cell points to cells ahead of it. -/
def Bk (zs : List Cel) : Prop := ∀ (i : Nat) (c : Cel), zs[i]? = some c → (0 ≤ c.l ∧ c.l ≤ (i : Int)) ∧ (0 ≤ c.r ∧ c.r ≤ (i : Int))
theorem Bk.nil : Bk [] := fun i c h => by simp at h
theorem Bk.snoc {zs : List Cel} {c : Cel} (h : Bk zs) (hc : (0 ≤ c.l ∧ c.l ≤ (zs.length : Int)) ∧ (0 ≤ c.r ∧ c.r ≤ (zs.length : Int))) : Bk (zs ++ [c]) := fun i x hx => by
  rcases Nat.lt_trichotomy i zs.length with hi | hi | hi
  · rw [List.getElem?_append_left hi] at hx; exact h i x hx
  · subst hi
    simp at hx
    subst hx
    exact hc
  · rw [List.getElem?_eq_none (by simp; omega)] at hx; cases hx
theorem Bk.take {zs : List Cel} (h : Bk zs) (n : Nat) : Bk (zs.take n) := fun i x hx => by
  rw [List.getElem?_take] at hx
  split at hx
  · exact h i x hx
  · cases hx
/-- Block b is an arena of that room with the cells zs, which lie in block o. -/
def ArAt (w : World) (b : Nat) (o : Option Nat) (room : Nat) (zs : List Cel) : Prop :=
  room ≤ 65536 ∧ zs.length ≤ room ∧ (∀ x ∈ zs, x.ok) ∧ Bk zs ∧ ∃ v, w.heap[b]? = some (.cells #[.int .i64 (room : Int), v] 76) ∧ OwnCel 0 w v zs ∧ v.ownBlock = o
theorem neAr : 76 ≠ 86 := by decide
theorem ArAt.lt {w : World} {b : Nat} {o : Option Nat} {room : Nat} {zs : List Cel} (h : ArAt w b o room zs) : b < w.heap.size ∧ ∀ g, o = some g → g < w.heap.size ∧ g ≠ b := by
  obtain ⟨_, _, _, _, v, hb, hown, rfl⟩ := h
  refine ⟨heap_lt hb, fun g hg => ⟨(hown.base g hg).2, fun e => ?_⟩⟩
  have := own_ne hown hb neAr
  rw [e] at hg
  exact this hg
theorem ArAt.fr {w w' : World} {F : Nat → Prop} {b : Nat} {o : Option Nat} {room : Nat} {zs : List Cel} (h : ArAt w b o room zs) (hf : Fr F w w') (hb : ¬ F b) (ho : ∀ g, o = some g → ¬ F g) : ArAt w' b o room zs := by
  have hl := h.lt
  obtain ⟨h1, h2, h3, h4, v, hv, hown, rfl⟩ := h
  refine ⟨h1, h2, h3, h4, v, (hf.block hl.1 hb).trans hv, ?_, rfl⟩
  refine ⟨hown.1, ?_⟩
  rcases hown.2 with hn | ⟨g, cap, cur, rfl, hB, hg, rest⟩
  · exact .inl hn
  · exact .inr ⟨g, cap, cur, rfl, hB, (hf.block (heap_lt hg) (ho g rfl)).trans hg, rest⟩
theorem ArAt.below {w w' : World} {b : Nat} {o : Option Nat} {room : Nat} {zs : List Cel} (h : ArAt w b o room zs) (hb : Below w.heap.size w w') : ArAt w' b o room zs :=
  h.fr (Fr.of_below (F := fun _ => False) hb) (fun e => e) (fun _ _ e => e)
theorem ArAt.open_ {w : World} {b : Nat} {o : Option Nat} {room : Nat} {zs : List Cel} (h : ArAt w b o room zs) : ∃ p c, (w.cell? ⟨b, 0, none⟩ = some (.int .i64 (room : Int)) ∧ w.cell? ⟨b, 1, none⟩ = some (.slice p zs.length c)) ∧ (w.frozen? ⟨b, 0, none⟩ = false ∧ w.frozen? ⟨b, 1, none⟩ = false) ∧ OwnCel 0 w (.slice p zs.length c) zs ∧ (Value.slice p zs.length c).ownBlock = o ∧ w.heap[b]? = some (.cells #[.int .i64 (room : Int), .slice p zs.length c] 76) := by
  obtain ⟨_, _, _, _, v, hb, hown, ho⟩ := h
  obtain ⟨p, c, rfl⟩ : ∃ p c, v = .slice p zs.length c := by
    rcases hown.2 with ⟨hv, h0⟩ | ⟨g, cap, cur, hv, _⟩
    · exact ⟨none, 0, by rw [hv, h0]⟩
    · exact ⟨_, _, hv⟩
  exact ⟨p, c, by simp [World.cell?, hb], by simp [World.frozen?, hb], hown, ho, hb⟩
/-- The room of an arena of which so much was asked. -/
def roomOf (n : Int) : Nat := (min (max n 0) 65536).toNat
theorem roomOf_eq (n : Int) : ((roomOf n : Nat) : Int) = min (max n 0) 65536 := by unfold roomOf; omega
theorem roomOf_le (n : Int) : roomOf n ≤ 65536 := by unfold roomOf; omega
theorem arnew_any (n : Int) (w : World) : Calls Try.prog 8 #[.int .i64 n] w fun e w' => e = .returned (.pointer (some ⟨w.heap.size, 0, none⟩)) ∧ ArAt w' w.heap.size none (roomOf n) [] ∧ Below w.heap.size w w' := by
  have key : ∀ r : Int, r = min (max n 0) 65536 → ArAt (w.alloc (.cells #[.int .i64 r, .slice none 0 0] 76)) w.heap.size none (roomOf n) [] := fun r hr => by
    rw [← roomOf_eq] at hr
    subst hr
    exact ⟨roomOf_le n, Nat.zero_le _, fun x hx => (List.not_mem_nil hx).elim, Bk.nil, .slice none 0 0, heap_alloc_at _ _ _ rfl, OwnCel.nil _ _, rfl⟩
  rcases (show n < 0 ∨ 0 ≤ n ∧ n ≤ 65536 ∨ 65536 < n from by omega) with h | ⟨h1, h2⟩ | h
  · have K := Lib.hid (key 0 (by omega))
    clear key
    go_enter Try.func8, Try.ntmps8
    go_wp2
    go_ret
    exact ⟨rfl, K.out, by go_grown⟩
  · have K := Lib.hid (key n (by omega))
    clear key
    go_enter Try.func8, Try.ntmps8
    go_wp2
    go_ret
    exact ⟨rfl, K.out, by go_grown⟩
  · have K := Lib.hid (key 65536 (by omega))
    clear key
    go_enter Try.func8, Try.ntmps8
    go_wp2
    go_ret
    exact ⟨rfl, K.out, by go_grown⟩
theorem arlen_any (b : Nat) (o : Option Nat) (room : Nat) (zs : List Cel) (w : World) (h : ArAt w b o room zs) : Calls Try.prog 37 #[.pointer (some ⟨b, 0, none⟩)] w fun e w' => e = .returned (.int .i64 (zs.length : Int)) ∧ w = w' := by
  obtain ⟨p, c, ⟨h0, h1⟩, _⟩ := h.open_
  clear h
  go_enter Try.func37, Try.ntmps37
  go_wp2
  go_ret
  exact ⟨rfl, rfl⟩
theorem arlen_nil (w : World) : Calls Try.prog 37 #[.pointer none] w fun e w' => e = .returned (.int .i64 0) ∧ w = w' := by
  go_enter Try.func37, Try.ntmps37
  go_wp2
  go_ret
  exact ⟨rfl, rfl⟩
/-- What a call that tells a number, and draws, leaves. -/
def IntDrew (r : Int) (w : World) (e : Ending) (w' : World) : Prop := e = .returned (.int .i64 r) ∧ ∃ n, w' = w.drewN n
theorem arroom_any (b : Nat) (o : Option Nat) (room : Nat) (zs : List Cel) (w : World) (h : ArAt w b o room zs) : Calls Try.prog 25 #[.pointer (some ⟨b, 0, none⟩)] w (IntDrew ((room : Int) - (zs.length : Int)) w) := by
  obtain ⟨p, c, ⟨h0, h1⟩, _⟩ := h.open_
  have hr := h.1
  have hl := h.2.1
  have e1 : IntKind.i64.wrap ((room : Int) - (zs.length : Int)) = (room : Int) - (zs.length : Int) := by rw [IntKind.wrap_i64]; omega
  clear h
  go_enter Try.func25, Try.ntmps25
  go_wp2
  go_quiet (fail)
  go_wp2
  go_ret
  exact ⟨rfl, _, rfl⟩
theorem arroom_nil (w : World) : Calls Try.prog 25 #[.pointer none] w (IntDrew 0 w) := by
  go_enter Try.func25, Try.ntmps25
  go_wp2
  go_ret
  exact ⟨rfl, 0, rfl⟩
/-- What a call that tells a bool leaves. -/
def BoolSame (is : Bool) (w : World) (e : Ending) (w' : World) : Prop := e = .returned (.bool is) ∧ w = w'
/-- An arena, or none, by its pointer. -/
def ArV (w : World) (pv : Value) (o : Option Nat) (room : Nat) (zs : List Cel) : Prop := (pv = .pointer none ∧ o = none ∧ room = 0 ∧ zs = []) ∨ ∃ b, pv = .pointer (some ⟨b, 0, none⟩) ∧ ArAt w b o room zs
theorem ArV.of {w : World} {b : Nat} {o : Option Nat} {room : Nat} {zs : List Cel} (h : ArAt w b o room zs) : ArV w (.pointer (some ⟨b, 0, none⟩)) o room zs := .inr ⟨b, rfl, h⟩
theorem ArV.nil (w : World) : ArV w (.pointer none) none 0 [] := .inl ⟨rfl, rfl, rfl, rfl⟩
theorem ArV.below {w w' : World} {pv : Value} {o : Option Nat} {room : Nat} {zs : List Cel} (h : ArV w pv o room zs) (hb : Below w.heap.size w w') : ArV w' pv o room zs := by
  rcases h with h | ⟨b, e, h⟩
  · exact .inl h
  · exact .inr ⟨b, e, h.below hb⟩
theorem ArV.le {w : World} {pv : Value} {o : Option Nat} {room : Nat} {zs : List Cel} (h : ArV w pv o room zs) : zs.length ≤ room ∧ room ≤ 65536 := by
  rcases h with ⟨_, _, rfl, rfl⟩ | ⟨b, e, h⟩
  · exact ⟨Nat.le_refl _, by decide⟩
  · exact ⟨h.2.1, h.1⟩
theorem ArV.bk {w : World} {pv : Value} {o : Option Nat} {room : Nat} {zs : List Cel} (h : ArV w pv o room zs) : Bk zs := by
  rcases h with ⟨_, _, rfl, rfl⟩ | ⟨b, e, h⟩
  · exact Bk.nil
  · exact h.2.2.2.1
theorem ArV.oks {w : World} {pv : Value} {o : Option Nat} {room : Nat} {zs : List Cel} (h : ArV w pv o room zs) : ∀ x ∈ zs, x.ok := by
  rcases h with ⟨_, _, rfl, rfl⟩ | ⟨b, e, h⟩
  · exact fun x hx => (List.not_mem_nil hx).elim
  · exact h.2.2.1
theorem arlen_v {pv : Value} {o : Option Nat} {room : Nat} {zs : List Cel} {w : World} (h : ArV w pv o room zs) : Calls Try.prog 37 #[pv] w fun e w' => e = .returned (.int .i64 (zs.length : Int)) ∧ w = w' := by
  rcases h with ⟨rfl, _, _, rfl⟩ | ⟨b, rfl, h⟩
  · exact arlen_nil w
  · exact arlen_any b o room zs w h
theorem arroom_v {pv : Value} {o : Option Nat} {room : Nat} {zs : List Cel} {w : World} (h : ArV w pv o room zs) : Calls Try.prog 25 #[pv] w (IntDrew ((room : Int) - (zs.length : Int)) w) := by
  rcases h with ⟨rfl, _, rfl, rfl⟩ | ⟨b, rfl, h⟩
  · exact arroom_nil w
  · exact arroom_any b o room zs w h
theorem ariscell {pv : Value} {o : Option Nat} {room : Nat} {zs : List Cel} {w : World} (i : Int) (h : ArV w pv o room zs) : Calls Try.prog 88 #[pv, .int .i64 i] w (BoolSame (decide (1 ≤ i ∧ i ≤ (zs.length : Int))) w) := by
  have HL := Lib.hid (arlen_v h)
  clear h
  by_cases h1 : 1 ≤ i
  · have e : decide (1 ≤ i ∧ i ≤ (zs.length : Int)) = decide (i ≤ (zs.length : Int)) := by simp [h1]
    rw [e]
    clear e
    go_enter Try.func88, Try.ntmps88
    go_wp2_with fail
    refine (HL.out).mono ?_
    rintro e w1 ⟨rfl, rfl⟩
    go_wp2
    go_ret
    exact ⟨rfl, rfl⟩
  · have e : decide (1 ≤ i ∧ i ≤ (zs.length : Int)) = false := by simp [h1]
    rw [e]
    have h2 : i < 1 := by omega
    clear e h1
    go_enter Try.func88, Try.ntmps88
    go_wp2
    go_ret
    exact ⟨rfl, rfl⟩
theorem armay {pv : Value} {o : Option Nat} {room : Nat} {zs : List Cel} {w : World} (i : Int) (h : ArV w pv o room zs) : Calls Try.prog 91 #[pv, .int .i64 i] w (BoolSame (decide (0 ≤ i ∧ i ≤ (zs.length : Int))) w) := by
  have HL := Lib.hid (ariscell i h)
  clear h
  by_cases h1 : i = 0
  · subst h1
    have e : decide (0 ≤ (0 : Int) ∧ 0 ≤ (zs.length : Int)) = true := by simp
    rw [e]
    clear e
    go_enter Try.func91, Try.ntmps91
    go_wp2
    go_ret
    exact ⟨rfl, rfl⟩
  · have e : decide (0 ≤ i ∧ i ≤ (zs.length : Int)) = decide (1 ≤ i ∧ i ≤ (zs.length : Int)) := by
      rw [decide_eq_decide]; omega
    rw [e]
    have h2 : (i == 0) = false := by rw [beq_eq_false_iff_ne]; exact h1
    clear e h1
    generalize decide (1 ≤ i ∧ i ≤ (zs.length : Int)) = q at HL ⊢
    go_enter Try.func91, Try.ntmps91
    go_wp2_with fail
    refine (HL.out).mono ?_
    rintro e w1 ⟨rfl, rfl⟩
    go_wp2
    go_ret
    exact ⟨rfl, rfl⟩
end Go.Proofs.Ytpbkclciipmonaa.F
namespace Go.Proofs.Ytpbkclciipmonaa.F
open Go.ChangeShapes Go.WideShapes Go.ChangeAt Go.RowKit Base
/-- A cell by value. -/
def Cel.agg (x : Cel) : Value := .agg #[.int .i64 x.l, .int .i64 x.r, .int .i64 x.k, .int .i64 x.v, .int .i64 x.s, .int .i64 x.h]
/-- What Get tells. -/
def GetPost (x : Cel) (is : Bool) (w : World) (e : Ending) (w' : World) : Prop := e = .returned (.tuple #[x.agg, .bool is]) ∧ Below w.heap.size w w'
theorem ArAt.cells {w : World} {b : Nat} {o : Option Nat} {room : Nat} {zs : List Cel} (h : ArAt w b o room zs) : ∃ p c, (w.cell? ⟨b, 0, none⟩ = some (.int .i64 (room : Int)) ∧ w.cell? ⟨b, 1, none⟩ = some (.slice p zs.length c)) ∧ Cels 0 w (.slice p zs.length c) zs := by
  obtain ⟨p, c, h1, _, h3, _⟩ := h.open_
  have := h.2.1
  have := h.1
  exact ⟨p, c, h1, h3.list (by omega)⟩
set_option maxHeartbeats 1000000 in
theorem arget_yes (b : Nat) (o : Option Nat) (room : Nat) (zs : List Cel) (i : Nat) (w : World) (h : ArAt w b o room zs) (hi : i < zs.length) : Calls Try.prog 74 #[.pointer (some ⟨b, 0, none⟩), .int .i64 ((i : Int) + 1)] w (GetPost (zs.getD i Cel.zero) true w) := by
  have HA := Lib.hid h
  have hr := h.1
  have hl := h.2.1
  obtain ⟨p, c, ⟨h0, h1⟩, hc⟩ := h.cells
  obtain ⟨g, o', rfl, _, hg, hcells⟩ : ∃ g o', p = some ⟨g, o', none⟩ ∧ True ∧ g < w.heap.size ∧ w.cell? ⟨g, o' + i * 6, none⟩ = some (.int .i64 (zs.getD i Cel.zero).l) ∧ w.cell? ⟨g, o' + i * 6 + 1, none⟩ = some (.int .i64 (zs.getD i Cel.zero).r) ∧ w.cell? ⟨g, o' + i * 6 + 2, none⟩ = some (.int .i64 (zs.getD i Cel.zero).k) ∧ w.cell? ⟨g, o' + i * 6 + 3, none⟩ = some (.int .i64 (zs.getD i Cel.zero).v) ∧ w.cell? ⟨g, o' + i * 6 + 4, none⟩ = some (.int .i64 (zs.getD i Cel.zero).s) ∧ w.cell? ⟨g, o' + i * 6 + 5, none⟩ = some (.int .i64 (zs.getD i Cel.zero).h) := by
    obtain ⟨p', c', hv, _, hk⟩ := hc.open_
    injection hv with e1 e2 e3
    subst e1
    obtain ⟨g, o', hp, _, hg, hh⟩ := hk i hi
    exact ⟨g, o', hp, trivial, hg, hh⟩
  obtain ⟨c0, c1, c2, c3, c4, c5⟩ := hcells
  generalize zs.getD i Cel.zero = x at c0 c1 c2 c3 c4 c5 ⊢
  have HL : Hid (∀ w1, Below w.heap.size w w1 → Calls Try.prog 88 #[.pointer (some ⟨b, 0, none⟩), .int .i64 ((i : Int) + 1)] w1 (BoolSame true w1)) := Lib.hid fun w1 hb => by
    have h1 := ariscell ((i : Int) + 1) (ArV.of (HA.out.below hb))
    rwa [show decide (1 ≤ (i : Int) + 1 ∧ (i : Int) + 1 ≤ (zs.length : Int)) = true by rw [decide_eq_true_eq]; omega] at h1
  have HB := Lib.hid ((Below.refl w.heap.size w).alloc (Nat.le_refl _) (.cells #[.int .i64 0, .int .i64 0, .int .i64 0, .int .i64 0, .int .i64 0, .int .i64 0] 86))
  have hbl := HA.out.lt.1
  have e1 : IntKind.i64.wrap ((i : Int) + 1 - 1) = (i : Int) := by rw [IntKind.wrap_i64]; omega
  clear h hc HA
  go_enter Try.func74, Try.ntmps74
  go_wp2_with fail
  refine (HL.out _ HB.out).mono ?_
  rintro e w1 ⟨rfl, rfl⟩
  go_wp2
  exact bodyPost_ret (v := .tuple #[x.agg, .bool true]) (by simp [results, Try.results74, go_sem, Cel.agg]) rfl ⟨rfl, by go_grown⟩
theorem Cel.zero_agg : Cel.zero.agg = .agg #[.int .i64 0, .int .i64 0, .int .i64 0, .int .i64 0, .int .i64 0, .int .i64 0] := rfl
theorem arget_no {pv : Value} {o : Option Nat} {room : Nat} {zs : List Cel} (i : Int) (w : World) (h : ArV w pv o room zs) (hi : i < 1 ∨ (zs.length : Int) < i) : Calls Try.prog 74 #[pv, .int .i64 i] w (GetPost Cel.zero false w) := by
  have HL : Hid (∀ w1, Below w.heap.size w w1 → Calls Try.prog 88 #[pv, .int .i64 i] w1 (BoolSame false w1)) := Lib.hid fun w1 hb => by
    have h1 := ariscell i (h.below hb)
    rwa [show decide (1 ≤ i ∧ i ≤ (zs.length : Int)) = false by rw [decide_eq_false_iff_not]; omega] at h1
  have HB := Lib.hid ((Below.refl w.heap.size w).alloc (Nat.le_refl _) (.cells #[.int .i64 0, .int .i64 0, .int .i64 0, .int .i64 0, .int .i64 0, .int .i64 0] 86))
  clear h hi
  go_enter Try.func74, Try.ntmps74
  go_wp2_with fail
  refine (HL.out _ HB.out).mono ?_
  rintro e w1 ⟨rfl, rfl⟩
  go_wp2
  exact bodyPost_ret (v := .tuple #[Cel.zero.agg, .bool false]) (by simp [results, Try.results74, go_sem, Cel.zero_agg]) rfl ⟨rfl, by go_grown⟩
/-- The cell of a number. -/
def celAt (zs : List Cel) (i : Int) : Cel := if 1 ≤ i then zs.getD (i.toNat - 1) Cel.zero else Cel.zero
theorem arget_v {pv : Value} {o : Option Nat} {room : Nat} {zs : List Cel} (i : Int) (w : World) (h : ArV w pv o room zs) : Calls Try.prog 74 #[pv, .int .i64 i] w (GetPost (celAt zs i) (decide (1 ≤ i ∧ i ≤ (zs.length : Int))) w) := by
  by_cases hi : 1 ≤ i ∧ i ≤ (zs.length : Int)
  · rw [show decide (1 ≤ i ∧ i ≤ (zs.length : Int)) = true by rw [decide_eq_true_eq]; exact hi]
    rcases h with ⟨rfl, _, _, rfl⟩ | ⟨b, rfl, h⟩
    · simp at hi; omega
    · have := arget_yes b o room zs (i.toNat - 1) w h (by omega)
      rw [show (((i.toNat - 1 : Nat)) : Int) + 1 = i by omega] at this
      unfold celAt
      rw [if_pos hi.1]
      exact this
  · rw [show decide (1 ≤ i ∧ i ≤ (zs.length : Int)) = false by rw [decide_eq_false_iff_not]; exact hi]
    have e : celAt zs i = Cel.zero := by
      unfold celAt
      split
      · rw [List.getD_eq_getElem?_getD, List.getElem?_eq_none (by omega)]; rfl
      · rfl
    rw [e]
    exact arget_no i w h (by omega)
/-- The blocks of an arena. -/
def ArF (b : Nat) (o : Option Nat) (g : Nat) : Prop := g = b ∨ o = some g
/-- What becomes of an arena: its cells lie where they lay, or in a new block; other blocks are as they were. -/
def ArPost (b : Nat) (o : Option Nat) (room : Nat) (zs : List Cel) (v : Value) (w : World) (e : Ending) (w' : World) : Prop :=
  e = .returned v ∧ ∃ o', ArAt w' b o' room zs ∧ (o' = o ∨ ∃ g, o' = some g ∧ w.heap.size ≤ g) ∧ Fr (ArF b o) w w'
theorem ArAt.store {w : World} {b : Nat} {o : Option Nat} {room : Nat} {zs' : List Cel} {v' : Value} (h : ∃ v, w.heap[b]? = some (.cells #[.int .i64 (room : Int), v] 76)) (hown : OwnCel 0 w v' zs') (ho : v'.ownBlock = o) (h1 : room ≤ 65536) (h2 : zs'.length ≤ room) (h3 : ∀ x ∈ zs', x.ok) (h4 : Bk zs') :
    ArAt (w.setCell ⟨b, 1, none⟩ v') b o room zs' := by
  obtain ⟨v, hb⟩ := h
  have hne := own_ne hown hb neAr
  refine ⟨h1, h2, h3, h4, v', by simp [World.setCell, Array.getElem?_modify, hb], ?_, ho⟩
  exact hown.kept (row := some b) ⟨rfl, rfl, rfl, by simp [World.setCell], fun k _ hk => Below.heap_setCell _ _ _ _ (fun e => hk (by simp [e]))⟩ (.inr hne)
theorem Fr.setCell {F : Nat → Prop} {w w' : World} (h : Fr F w w') {b : Nat} (hb : F b) (j : Nat) (v : Value) : Fr F w (w'.setCell ⟨b, j, none⟩ v) :=
  ⟨h.1, h.2.1, h.2.2.1, by simpa [World.setCell] using h.size, fun g hg hn => (Below.heap_setCell _ _ _ _ (fun e => hn (by rw [e]; exact hb))).trans (h.block hg hn)⟩
set_option maxHeartbeats 1000000 in
theorem arcut_yes (b : Nat) (o : Option Nat) (room : Nat) (zs : List Cel) (n : Nat) (w : World) (h : ArAt w b o room zs) (hn : n ≤ zs.length) : Calls Try.prog 75 #[.pointer (some ⟨b, 0, none⟩), .int .i64 (n : Int)] w (ArPost b o room (zs.take n) (.bool true) w) := by
  obtain ⟨p, c, ⟨h0, h1⟩, ⟨f0, f1⟩, hown, ho, hb⟩ := h.open_
  have hlc : zs.length ≤ c := by
    rcases hown.2 with ⟨hv, hz⟩ | ⟨g, cap, cur, hv, _, _, hh, _⟩
    · omega
    · injection hv with e1 e2 e3
      omega
  have hcut := hown.cut hn
  have hs : ∀ wx, (Instr.sliceAt 74 (.slice p zs.length c) none (some (.int .i64 (n : Int))) none).run Try.prog wx = .ok (.slice p n c) wx := fun wx => by
    rw [run_sliceAt_slice _ _ _ _ _ _ (by kernel_rfl), run_slice_h wx _ _ _ _ (by kernel_rfl) _ _ (by omega) (by omega), show Try.prog.elem 74 = 86 by kernel_rfl, show (sizeOf 86).run Try.prog wx = .ok 6 wx by kernel_rfl]
    simp only [Result.andThen, sliced]
    congr 1
    cases p with
    | none => simp
    | some a => simp [Addr.add]
  have HP : Hid (ArPost b o room (zs.take n) (.bool true) w (.returned (.bool true)) (w.setCell ⟨b, 1, none⟩ (.slice p n c))) := Lib.hid
    ⟨rfl, o, ArAt.store ⟨_, hb⟩ hcut (by rw [← ho]; cases p <;> rfl) h.1 (by rw [List.length_take]; have := h.2.1; omega) (fun x hx => h.2.2.1 x (List.mem_of_mem_take hx)) (h.2.2.2.1.take n), .inl rfl, (Fr.refl _ _).setCell (.inl rfl) 1 _⟩
  have hll := h.2.1
  have hrr := h.1
  clear h hown ho hb hcut
  generalize ArPost b o room (zs.take n) (.bool true) w = Post at HP ⊢
  go_enter Try.func75, Try.ntmps75
  go_wp2
  exact HP.out
theorem arcut_no (b : Nat) (o : Option Nat) (room : Nat) (zs : List Cel) (n : Int) (w : World) (h : ArAt w b o room zs) (hn : n < 0 ∨ (zs.length : Int) < n) : Calls Try.prog 75 #[.pointer (some ⟨b, 0, none⟩), .int .i64 n] w fun e w' => e = .returned (.bool false) ∧ w = w' := by
  obtain ⟨p, c, ⟨h0, h1⟩, _⟩ := h.open_
  clear h
  by_cases h1 : n < 0
  · clear hn
    go_enter Try.func75, Try.ntmps75
    go_wp2
    go_ret
    exact ⟨rfl, rfl⟩
  · have h2 : (zs.length : Int) < n := by omega
    have h3 : 0 ≤ n := by omega
    clear hn h1
    go_enter Try.func75, Try.ntmps75
    go_wp2
    go_ret
    exact ⟨rfl, rfl⟩
theorem arcut_nil (n : Int) (w : World) : Calls Try.prog 75 #[.pointer none, .int .i64 n] w (BoolSame (n == 0) w) := by
  go_enter Try.func75, Try.ntmps75
  go_wp2
  go_ret
  exact ⟨rfl, rfl⟩
end Go.Proofs.Ytpbkclciipmonaa.F
namespace Go.Proofs.Ytpbkclciipmonaa.F
open Go.ChangeShapes Go.WideShapes Go.ChangeAt Go.RowKit Base
/-- Is a cell right for an arena that has n cells? -/
def fitC (c : Cel) (n : Nat) : Prop := (0 ≤ c.l ∧ c.l ≤ (n : Int)) ∧ (0 ≤ c.r ∧ c.r ≤ (n : Int))
theorem Cel.box (c : Cel) (w : World) : Below w.heap.size w (w.alloc (.cells #[.int .i64 c.l, .int .i64 c.r, .int .i64 c.k, .int .i64 c.v, .int .i64 c.s, .int .i64 c.h] 86)) := (Below.refl _ _).alloc (Nat.le_refl _) _
/-- What a call that tells a number, and why there is none, and may make memory, leaves. -/
def NumPost (i y : Int) (w : World) (e : Ending) (w' : World) : Prop := e = .returned (.tuple #[.int .i64 i, .int .i64 y]) ∧ Below w.heap.size w w'
set_option maxHeartbeats 2000000 in
theorem arput_bad {pv : Value} {o : Option Nat} {room : Nat} {zs : List Cel} (c : Cel) (w : World) (h : ArV w pv o room zs) (hc : ¬ fitC c zs.length) : Calls Try.prog 77 #[pv, .agg #[.int .i64 c.l, .int .i64 c.r, .int .i64 c.k, .int .i64 c.v, .int .i64 c.s, .int .i64 c.h]] w (NumPost 0 1 w) := by
  have HB := Lib.hid (c.box w)
  have h' := h.below HB.out
  clear h
  by_cases h1 : 0 ≤ c.l ∧ c.l ≤ (zs.length : Int)
  · have HL := Lib.hid (armay c.l h')
    rw [show decide (0 ≤ c.l ∧ c.l ≤ (zs.length : Int)) = true by rw [decide_eq_true_eq]; exact h1] at HL
    have HM := Lib.hid (armay c.r h')
    rw [show decide (0 ≤ c.r ∧ c.r ≤ (zs.length : Int)) = false by rw [decide_eq_false_iff_not]; exact fun e => hc ⟨h1, e⟩] at HM
    clear hc h' h1
    go_enter Try.func77, Try.ntmps77
    go_wp2_with fail
    refine (HL.out).mono ?_
    rintro e w1 ⟨rfl, rfl⟩
    go_wp2_with fail
    refine (HM.out).mono ?_
    rintro e w1 ⟨rfl, rfl⟩
    go_wp2
    go_ret2
    exact ⟨rfl, HB.out⟩
  · have HL := Lib.hid (armay c.l h')
    rw [show decide (0 ≤ c.l ∧ c.l ≤ (zs.length : Int)) = false by rw [decide_eq_false_iff_not]; exact h1] at HL
    clear hc h' h1
    go_enter Try.func77, Try.ntmps77
    go_wp2_with fail
    refine (HL.out).mono ?_
    rintro e w1 ⟨rfl, rfl⟩
    go_wp2
    go_ret2
    exact ⟨rfl, HB.out⟩
theorem arput_may {pv : Value} {o : Option Nat} {room : Nat} {zs : List Cel} {c : Cel} {w : World} (h : ArV w pv o room zs) (hc : fitC c zs.length) : Calls Try.prog 91 #[pv, .int .i64 c.l] w (BoolSame true w) ∧ Calls Try.prog 91 #[pv, .int .i64 c.r] w (BoolSame true w) := by
  have h1 := armay c.l h
  have h2 := armay c.r h
  rw [show decide (0 ≤ c.l ∧ c.l ≤ (zs.length : Int)) = true by rw [decide_eq_true_eq]; exact hc.1] at h1
  rw [show decide (0 ≤ c.r ∧ c.r ≤ (zs.length : Int)) = true by rw [decide_eq_true_eq]; exact hc.2] at h2
  exact ⟨h1, h2⟩
set_option maxHeartbeats 2000000 in
theorem arput_full {pv : Value} {o : Option Nat} {room : Nat} {zs : List Cel} (c : Cel) (w : World) (h : ArV w pv o room zs) (hc : fitC c zs.length) (hf : zs.length = room) : Calls Try.prog 77 #[pv, .agg #[.int .i64 c.l, .int .i64 c.r, .int .i64 c.k, .int .i64 c.v, .int .i64 c.s, .int .i64 c.h]] w (NumPost 0 2 w) := by
  have HB := Lib.hid (c.box w)
  have h' := h.below HB.out
  have HL := Lib.hid (arput_may h' hc).1
  have HM := Lib.hid (arput_may h' hc).2
  have HR := Lib.hid (arroom_v h')
  have e0 : (room : Int) - (zs.length : Int) = 0 := by omega
  rw [e0] at HR
  clear h hf e0 hc h'
  go_enter Try.func77, Try.ntmps77
  go_wp2_with fail
  refine (HL.out).mono ?_
  rintro e w1 ⟨rfl, rfl⟩
  go_wp2_with fail
  refine (HM.out).mono ?_
  rintro e w1 ⟨rfl, rfl⟩
  go_wp2_with fail
  refine (HR.out).mono ?_
  rintro e w1 ⟨rfl, n, rfl⟩
  go_wp2
  go_ret2
  exact ⟨rfl, below_drewN HB.out n⟩
theorem put_step {w w1 X w' : World} {b room : Nat} {o : Option Nat} {zs : List Cel} {c : Cel} {p : Option Addr} {cp : Nat} {v' V : Value} {oo : Obj} (hA : ArAt w1 b o room zs) (hb : w1.heap[b]? = some (.cells #[.int .i64 (room : Int), .slice p zs.length cp] 76)) (hbo : (Value.slice p zs.length cp).ownBlock = o) (hw : Below w.heap.size w w1)
    (hX : X.os = w1.os ∧ X.tape = w1.tape ∧ X.output = w1.output ∧ X.heap = w1.heap) (hf : zs.length < room) (hc : c.ok) (hfit : fitC c zs.length) (ho : OwnCel 0 w' v' (zs ++ [c])) (hg : (X.alloc oo).grownBy w' (Value.slice p zs.length cp).ownBlock) (hat : v'.ownBlock = (Value.slice p zs.length cp).ownBlock ∨ v'.ownBlock = some (X.alloc oo).heap.size) :
    ∃ g cap, v' = .slice (some ⟨g, 0, none⟩) (zs.length + 1) cap ∧ w'.cell? ⟨b, 1, none⟩ = some (.slice p zs.length cp) ∧ w'.frozen? ⟨b, 1, none⟩ = false ∧ Hid (ArPost b o room (zs ++ [c]) V w (.returned V) (w'.setCell ⟨b, 1, none⟩ v')) := by
  obtain ⟨g, cap, hv⟩ : ∃ g cap, v' = .slice (some ⟨g, 0, none⟩) (zs.length + 1) cap := by
    rcases ho.2 with ⟨_, h0⟩ | ⟨g, cap, cur, hv, _⟩
    · simp at h0
    · exact ⟨g, cap, by simpa using hv⟩
  have hlt := hA.lt
  have hne : (Value.slice p zs.length cp).ownBlock ≠ some b := fun e => (hlt.2 b (hbo.symm.trans e)).2 rfl
  have hsz : (X.alloc oo).heap.size = w1.heap.size + 1 := by simp [hX.2.2.2]
  have hb1 : (X.alloc oo).heap[b]? = some (.cells #[.int .i64 (room : Int), .slice p zs.length cp] 76) := heap_alloc_lt _ _ _ _ (by rw [hX.2.2.2]; exact hb)
  have hb2 : w'.heap[b]? = some (.cells #[.int .i64 (room : Int), .slice p zs.length cp] 76) := (hg.block b (heap_lt hb1) (fun e => hne e.symm)).trans hb1
  have hFr : Fr (ArF b o) w w' := by
    have f1 : Fr (ArF b o) w w1 := Fr.of_below hw
    have f2 : Fr (ArF b o) w X := ⟨hX.1.trans f1.1, hX.2.1.trans f1.2.1, hX.2.2.1.trans f1.2.2.1, by rw [hX.2.2.2]; exact f1.size, fun g hg hn => by rw [hX.2.2.2]; exact f1.block hg hn⟩
    exact (f2.alloc oo).trans (Fr.of_grown (F := fun g => o = some g) hg (fun k hk => hbo.symm.trans hk)) (fun g _ e => .inr e)
  refine ⟨g, cap, hv, by simp [World.cell?, hb2], by simp [World.frozen?, hb2], Lib.hid ⟨rfl, v'.ownBlock, ?_, ?_, hFr.setCell (.inl rfl) 1 _⟩⟩
  · refine ArAt.store ⟨_, hb2⟩ ho rfl hA.1 (by rw [List.length_append, List.length_singleton]; omega) (fun x hx => ?_) (hA.2.2.2.1.snoc hfit)
    rcases List.mem_append.1 hx with h | h
    · exact hA.2.2.1 x h
    · rw [List.mem_singleton.1 h]; exact hc
  · rcases hat with h | h
    · exact .inl (h.trans hbo)
    · exact .inr ⟨_, h, by have := hw.size; omega⟩
set_option maxHeartbeats 2000000 in
theorem arput_ok (b : Nat) (o : Option Nat) (room : Nat) (zs : List Cel) (c : Cel) (w : World) (h : ArAt w b o room zs) (hc : fitC c zs.length) (hf : zs.length < room) (hok : c.ok) : Calls Try.prog 77 #[.pointer (some ⟨b, 0, none⟩), .agg #[.int .i64 c.l, .int .i64 c.r, .int .i64 c.k, .int .i64 c.v, .int .i64 c.s, .int .i64 c.h]] w (ArPost b o room (zs ++ [c]) (.tuple #[.int .i64 ((zs.length : Int) + 1), .int .i64 0]) w) := by
  have HB := Lib.hid (c.box w)
  have HA := Lib.hid (h.below HB.out)
  have HL := Lib.hid (arput_may (ArV.of HA.out) hc).1
  have HM := Lib.hid (arput_may (ArV.of HA.out) hc).2
  have hfit := hc
  have HR := Lib.hid (arroom_any b o room zs _ HA.out)
  have hne : ((room : Int) - (zs.length : Int) == 0) = false := by rw [beq_eq_false_iff_ne]; omega
  have hll := h.2.1
  have hrr := h.1
  have hbw := h.lt.1
  clear h
  unfold fitC at hc
  obtain ⟨⟨h1, h2⟩, h3, h4⟩ := hc
  obtain ⟨p, cp, ⟨q0, q1⟩, ⟨f0, f1⟩, hown, hoo, hb⟩ := HA.out.open_
  have HO := Lib.hid hown
  have qq : w.cell? ⟨b, 1, none⟩ = some (.slice p zs.length cp) := by
    rw [← q1]
    simp only [World.cell?]
    rw [Below.heap_alloc _ _ _ hbw]
  have HS : Hid (∀ (X w' : World) (v' : Value) (oo : Obj),
      OwnCel 0 w' v' (zs ++ [c]) → (X.alloc oo).grownBy w' (Value.slice p zs.length cp).ownBlock → (v'.ownBlock = (Value.slice p zs.length cp).ownBlock ∨ v'.ownBlock = some (X.alloc oo).heap.size) → X.os = (w.alloc (.cells #[.int .i64 c.l, .int .i64 c.r, .int .i64 c.k, .int .i64 c.v, .int .i64 c.s, .int .i64 c.h] 86)).os ∧ X.tape = (w.alloc (.cells #[.int .i64 c.l, .int .i64 c.r, .int .i64 c.k, .int .i64 c.v, .int .i64 c.s, .int .i64 c.h] 86)).tape ∧ X.output = (w.alloc (.cells #[.int .i64 c.l, .int .i64 c.r, .int .i64 c.k, .int .i64 c.v, .int .i64 c.s, .int .i64 c.h] 86)).output ∧ X.heap = (w.alloc (.cells #[.int .i64 c.l, .int .i64 c.r, .int .i64 c.k, .int .i64 c.v, .int .i64 c.s, .int .i64 c.h] 86)).heap →
      ∃ g cap, v' = .slice (some ⟨g, 0, none⟩) (zs.length + 1) cap ∧ w'.cell? ⟨b, 1, none⟩ = some (.slice p zs.length cp) ∧ w'.frozen? ⟨b, 1, none⟩ = false ∧ Hid (ArPost b o room (zs ++ [c]) (.tuple #[.int .i64 ((zs.length : Int) + 1), .int .i64 0]) w (.returned (.tuple #[.int .i64 ((zs.length : Int) + 1), .int .i64 0])) (w'.setCell ⟨b, 1, none⟩ v'))) :=
    Lib.hid fun X w' v' oo h1 h2 h3 hX => put_step HA.out hb hoo HB.out hX hf hok hfit h1 h2 h3
  clear hown hoo hb hf hok hfit
  generalize ArPost b o room (zs ++ [c]) (.tuple #[.int .i64 ((zs.length : Int) + 1), .int .i64 0]) w = Post at HS ⊢
  go_enter Try.func77, Try.ntmps77
  go_wp2_with fail
  refine (HL.out).mono ?_
  rintro e w1 ⟨rfl, rfl⟩
  go_wp2_with fail
  refine (HM.out).mono ?_
  rintro e w1 ⟨rfl, rfl⟩
  go_wp2_with fail
  refine (HR.out).mono ?_
  rintro e w1 ⟨rfl, n, rfl⟩
  go_wp2_with fail
  go_region_law (refine step_append_cels rfl (.tmp 27) (.tmp 29) rfl (Nat.zero_le _) (OwnCel.lay HO.out rfl _) (by simp [Act.eval]) (cel_lit c _) (by simp [Act.eval]) (by simp; omega) ?_; intro v' w' ho hg hat; obtain ⟨g, cap, rfl, c1, c2, HE⟩ := HS.out _ _ _ _ ho hg hat ⟨rfl, rfl, rfl, rfl⟩; clear ho hg hat)
  all_goals go_wp2
  all_goals exact HE.out
end Go.Proofs.Ytpbkclciipmonaa.F
namespace Go.Proofs.Ytpbkclciipmonaa.F
open Go.ChangeShapes Go.WideShapes Go.ChangeAt Go.RowKit Base
/-- The blocks of an arena. -/
def VF (pv : Value) (o : Option Nat) (g : Nat) : Prop := pv = .pointer (some ⟨g, 0, none⟩) ∨ o = some g
/-- Cells lie where they lay, or in a new block. -/
def Mv (o o' : Option Nat) (w : World) : Prop := o' = o ∨ ∃ g, o' = some g ∧ w.heap.size ≤ g
theorem Mv.refl (o : Option Nat) (w : World) : Mv o o w := .inl rfl
theorem Mv.trans {o o' o'' : Option Nat} {w w' : World} (h : Mv o o' w) (k : Mv o' o'' w') (hs : w.heap.size ≤ w'.heap.size) : Mv o o'' w := by
  rcases k with rfl | ⟨g, e, hg⟩
  · exact h
  · exact .inr ⟨g, e, Nat.le_trans hs hg⟩
theorem Mv.lower {o o' : Option Nat} {w w' : World} (h : Mv o o' w') (hs : w.heap.size ≤ w'.heap.size) : Mv o o' w := by
  rcases h with rfl | ⟨g, e, hg⟩
  · exact .inl rfl
  · exact .inr ⟨g, e, Nat.le_trans hs hg⟩
theorem Mv.vf {pv : Value} {o o' : Option Nat} {w : World} (h : Mv o o' w) (g : Nat) (hg : g < w.heap.size) (k : VF pv o' g) : VF pv o g := by
  rcases k with k | k
  · exact .inl k
  · rcases h with rfl | ⟨g', e, hg'⟩
    · exact .inr k
    · rw [e] at k; injection k with k; omega
theorem ArV.lt {w : World} {pv : Value} {o : Option Nat} {room : Nat} {zs : List Cel} (h : ArV w pv o room zs) (g : Nat) (k : VF pv o g) : g < w.heap.size := by
  rcases h with ⟨rfl, rfl, _, _⟩ | ⟨b, rfl, h⟩
  · rcases k with k | k <;> cases k
  · rcases k with k | k
    · injection k with k; injection k with k; injection k with k; exact k ▸ h.lt.1
    · exact (h.lt.2 g k).1
theorem ArV.fr {w w' : World} {F : Nat → Prop} {pv : Value} {o : Option Nat} {room : Nat} {zs : List Cel} (h : ArV w pv o room zs) (hf : Fr F w w') (hF : ∀ g, VF pv o g → ¬ F g) : ArV w' pv o room zs := by
  rcases h with h | ⟨b, rfl, h⟩
  · exact .inl h
  · exact .inr ⟨b, rfl, h.fr hf (hF b (.inl rfl)) (fun g e => hF g (.inr e))⟩
/-- What becomes of an arena: its cells lie where they lay, or in a new block; other blocks are as they were. -/
def ArStep (pv : Value) (o : Option Nat) (room : Nat) (zs : List Cel) (v : Value) (w : World) (e : Ending) (w' : World) : Prop :=
  e = .returned v ∧ ∃ o', ArV w' pv o' room zs ∧ Mv o o' w ∧ Fr (VF pv o) w w'
theorem ArPost.step {b : Nat} {o : Option Nat} {room : Nat} {zs : List Cel} {v : Value} {w w' : World} {e : Ending} (h : ArPost b o room zs v w e w') : ArStep (.pointer (some ⟨b, 0, none⟩)) o room zs v w e w' := by
  obtain ⟨he, o', h1, h2, h3⟩ := h
  exact ⟨he, o', ArV.of h1, h2, h3.mono fun g hg => by
    rcases hg with rfl | hg
    · exact .inl rfl
    · exact .inr hg⟩
theorem ArStep.same {pv : Value} {o : Option Nat} {room : Nat} {zs : List Cel} {v : Value} {w w' : World} {e : Ending} (h : ArV w pv o room zs) (he : e = .returned v) (hb : Below w.heap.size w w') : ArStep pv o room zs v w e w' :=
  ⟨he, o, h.below hb, Mv.refl _ _, Fr.of_below hb⟩
instance (c : Cel) (n : Nat) : Decidable (fitC c n) := by unfold fitC; infer_instance
/-- What becomes of a cell put to an arena: the cells, what is told. -/
def putA (room : Nat) (zs : List Cel) (c : Cel) : List Cel × Int × Int :=
  if fitC c zs.length then if zs.length < room then (zs ++ [c], (zs.length : Int) + 1, 0) else (zs, 0, 2) else (zs, 0, 1)
theorem arput_v {pv : Value} {o : Option Nat} {room : Nat} {zs : List Cel} (c : Cel) (w : World) (h : ArV w pv o room zs) (hok : c.ok) : Calls Try.prog 77 #[pv, .agg #[.int .i64 c.l, .int .i64 c.r, .int .i64 c.k, .int .i64 c.v, .int .i64 c.s, .int .i64 c.h]] w (ArStep pv o room (putA room zs c).1 (.tuple #[.int .i64 (putA room zs c).2.1, .int .i64 (putA room zs c).2.2]) w) := by
  unfold putA
  by_cases hc : fitC c zs.length
  · rw [if_pos hc]
    by_cases hf : zs.length < room
    · rw [if_pos hf]
      rcases h with ⟨_, _, rfl, _⟩ | ⟨b, rfl, h⟩
      · omega
      · exact (arput_ok b o room zs c w h hc hf hok).mono fun _ _ hp => hp.step
    · rw [if_neg hf]
      exact (arput_full c w h hc (by have := h.le; omega)).mono fun _ _ hp => .same h hp.1 hp.2
  · rw [if_neg hc]
    exact (arput_bad c w h hc).mono fun _ _ hp => .same h hp.1 hp.2
/-- What becomes of an arena that is cut. -/
def cutA (zs : List Cel) (n : Int) : List Cel × Bool := if 0 ≤ n ∧ n ≤ (zs.length : Int) then (zs.take n.toNat, true) else (zs, false)
theorem arcut_v {pv : Value} {o : Option Nat} {room : Nat} {zs : List Cel} (n : Int) (w : World) (h : ArV w pv o room zs) : Calls Try.prog 75 #[pv, .int .i64 n] w (ArStep pv o room (cutA zs n).1 (.bool (cutA zs n).2) w) := by
  unfold cutA
  rcases h with ⟨rfl, rfl, rfl, rfl⟩ | ⟨b, rfl, h⟩
  · have := arcut_nil n w
    refine this.mono fun e w' ⟨he, hw⟩ => ?_
    subst hw
    have e1 : (n == 0) = (if 0 ≤ n ∧ n ≤ (([] : List Cel).length : Int) then (([] : List Cel).take n.toNat, true) else ([], false)).2 := by
      by_cases hn : n = 0
      · subst hn; rfl
      · rw [beq_eq_false_iff_ne.2 hn, if_neg (by simp; omega)]
    rw [e1] at he
    have e2 : (if 0 ≤ n ∧ n ≤ (([] : List Cel).length : Int) then (([] : List Cel).take n.toNat, true) else ([], false)).1 = [] := by split <;> simp
    rw [e2]
    exact .same (ArV.nil w) he (Below.refl _ _)
  · by_cases hn : 0 ≤ n ∧ n ≤ (zs.length : Int)
    · rw [if_pos hn]
      have := arcut_yes b o room zs n.toNat w h (by omega)
      rw [Int.toNat_of_nonneg hn.1] at this
      exact this.mono fun _ _ hp => hp.step
    · rw [if_neg hn]
      refine (arcut_no b o room zs n w h (by omega)).mono fun e w' ⟨he, hw⟩ => ?_
      subst hw
      exact .same (ArV.of h) he (Below.refl _ _)
end Go.Proofs.Ytpbkclciipmonaa.F
namespace Go.Proofs.Ytpbkclciipmonaa.F
open Go.ChangeShapes Go.WideShapes Go.ChangeAt Go.RowKit Base
/-- A value of the struct. -/
structure Pai where
  k : Int
  v : Int
def Pai.zero : Pai := ⟨0, 0⟩
/-- Its cells. -/
def Pai.vals (x : Pai) : List Value := [.int .i64 x.k, .int .i64 x.v]
/-- Its fields are ints of 64 bits. -/
def Pai.ok (x : Pai) : Prop := (-9223372036854775808 ≤ x.k ∧ x.k ≤ 9223372036854775807) ∧ (-9223372036854775808 ≤ x.v ∧ x.v ≤ 9223372036854775807)
/-- The slice v, whose elements lie from block base on, holds xs. -/
def Pais (base : Nat) (w : World) (v : Value) (xs : List Pai) : Prop :=
  ((∃ p c, v = .slice p 0 c ∧ (p = none → c = 0)) ∧ xs = []) ∨ ∃ g o c, v = .slice (some ⟨g, o, none⟩) xs.length c ∧ base ≤ g ∧ g < w.heap.size ∧ xs.length ≤ 9223372036854775807 ∧ ∀ k, k < xs.length →
    w.cell? ⟨g, o + k * 2, none⟩ = some (.int .i64 (xs.getD k Pai.zero).k) ∧ w.cell? ⟨g, o + k * 2 + 1, none⟩ = some (.int .i64 (xs.getD k Pai.zero).v)
theorem Pais.kept {base base' : Nat} {w w1 : World} {v : Value} {xs : List Pai} (h : Pais base w v xs) (hb : ∀ g, base ≤ g → g < w.heap.size → w1.heap[g]? = w.heap[g]? ∧ base' ≤ g) (hs : w.heap.size ≤ w1.heap.size) : Pais base' w1 v xs := by
  rcases h with h | ⟨g, o, c, hv, h0, h1, h2, h3⟩
  · exact .inl h
  · refine .inr ⟨g, o, c, hv, (hb g h0 h1).2, Nat.lt_of_lt_of_le h1 hs, h2, fun k hk => ?_⟩
    have key : ∀ j, w1.cell? ⟨g, j, none⟩ = w.cell? ⟨g, j, none⟩ := fun j => World.cell?_of_block (a := ⟨g, j, none⟩) (hb g h0 h1).1
    simp only [key]
    exact h3 k hk
theorem Pais.below {base : Nat} {w w1 : World} {v : Value} {xs : List Pai} (h : Pais base w v xs) (hb : Below w.heap.size w w1) : Pais base w1 v xs :=
  h.kept (fun g h0 h1 => ⟨hb.block g h1, h0⟩) hb.size
theorem Pais.grown {base : Nat} {w w1 : World} {v : Value} {xs : List Pai} {x : Option Nat} (h : Pais base w v xs) (hg : w.grownBy w1 x) (hx : ∀ b, x = some b → b < base) : Pais base w1 v xs :=
  h.kept (fun g h0 h1 => ⟨hg.block g h1 (fun e => by have := hx g e.symm; omega), h0⟩) hg.size
theorem Pais.mono {base base' : Nat} {w : World} {v : Value} {xs : List Pai} (h : Pais base w v xs) (hb : base' ≤ base) : Pais base' w v xs :=
  h.kept (fun _ h0 _ => ⟨rfl, Nat.le_trans hb h0⟩) (Nat.le_refl _)
theorem Pais.open_ {base : Nat} {w : World} {v : Value} {xs : List Pai} (h : Pais base w v xs) : ∃ p c, v = .slice p xs.length c ∧ xs.length ≤ 9223372036854775807 ∧ ∀ k, k < xs.length → ∃ g o, p = some ⟨g, o, none⟩ ∧ base ≤ g ∧ g < w.heap.size ∧
    w.cell? ⟨g, o + k * 2, none⟩ = some (.int .i64 (xs.getD k Pai.zero).k) ∧ w.cell? ⟨g, o + k * 2 + 1, none⟩ = some (.int .i64 (xs.getD k Pai.zero).v) := by
  rcases h with ⟨⟨p, c, hv⟩, rfl⟩ | ⟨g, o, c, hv, h0, h1, h2, h3⟩
  · exact ⟨p, c, hv.1, by simp, fun k hk => absurd hk (by simp)⟩
  · exact ⟨_, c, hv, h2, fun k hk => ⟨g, o, rfl, h0, h1, h3 k hk⟩⟩
theorem Pais.nil {base : Nat} {w : World} : Pais base w (.slice none 0 0) [] := .inl ⟨⟨_, _, rfl, fun _ => rfl⟩, rfl⟩
theorem pai_flat_len (zs : List Pai) : (zs.flatMap Pai.vals).length = zs.length * 2 := by
  induction zs with
  | nil => rfl
  | cons x zs ih => rw [List.flatMap_cons, List.length_append, ih]; simp [Pai.vals]; omega
theorem pai_flat_get : ∀ (zs : List Pai) (k j : Nat), k < zs.length → j < 2 → (zs.flatMap Pai.vals)[k * 2 + j]? = (Pai.vals (zs.getD k Pai.zero))[j]?
  | x :: zs, 0, j, _, hj => by
    rw [List.flatMap_cons, List.getElem?_append_left (by simp [Pai.vals]; omega)]
    simp
  | x :: zs, k + 1, j, hk, hj => by
    rw [List.flatMap_cons, List.getElem?_append_right (by simp [Pai.vals]; omega), show (k + 1) * 2 + j - (Pai.vals x).length = k * 2 + j by simp [Pai.vals]; omega, pai_flat_get zs k j (by simpa using hk) hj]
    rfl
theorem pai_flat_take (zs : List Pai) (m : Nat) : (zs.flatMap Pai.vals).take (m * 2) = (zs.take m).flatMap Pai.vals := by
  induction zs generalizing m with
  | nil => simp
  | cons x zs ih =>
    cases m with
    | zero => simp
    | succ m =>
      rw [List.flatMap_cons, List.take_succ_cons, List.flatMap_cons, ← ih m, List.take_append, List.take_of_length_le (by simp [Pai.vals]; omega)]
      congr 2
      simp [Pai.vals]; omega
theorem pai_vals_one (zs : List Pai) : ∀ u ∈ zs.flatMap Pai.vals, u.oneCell' = true := by
  intro u hu
  obtain ⟨x, _, hx⟩ := List.mem_flatMap.1 hu
  simp only [Pai.vals, List.mem_cons, List.not_mem_nil, or_false] at hx
  rcases hx with rfl | rfl <;> rfl
/-- The slice v, which the call made itself from block B on, holds zs. -/
def OwnPai (B : Nat) (w : World) (v : Value) (zs : List Pai) : Prop := w.ownsRow B 56 2 v zs.length (zs.flatMap Pai.vals)
theorem OwnPai.nil (B : Nat) (w : World) : OwnPai B w (.slice none 0 0) [] := World.ownsRow_nil _ _ _ _
theorem OwnPai.list {B : Nat} {w : World} {v : Value} {zs : List Pai} (h : OwnPai B w v zs) (hl : zs.length ≤ 9223372036854775807) : Pais B w v zs := by
  have h' := h
  rcases h.2 with ⟨hv, h0⟩ | ⟨g, cap, cur, hv, hB, h2, _⟩
  · exact .inl ⟨⟨_, _, hv, fun _ => rfl⟩, List.length_eq_zero_iff.1 h0⟩
  · subst hv
    have hc : ∀ k j, k < zs.length → j < 2 → w.cell? ⟨g, 0 + k * 2 + j, none⟩ = (Pai.vals (zs.getD k Pai.zero))[j]? := fun k j hk hj => by
      rw [Nat.zero_add, ← pai_flat_get zs k j hk hj]
      exact World.ownsRow.cellAt h' (k * 2 + j) (by omega)
    exact .inr ⟨g, 0, cap, rfl, hB, heap_lt h2, hl, fun k hk => ⟨hc k 0 hk (by omega), hc k 1 hk (by omega)⟩⟩
theorem OwnPai.kept {B : Nat} {w w1 : World} {v : Value} {zs : List Pai} (h : OwnPai B w v zs) {row : Option Nat} (hg : w.grownBy w1 row) (hne : v.ownBlock = none ∨ v.ownBlock ≠ row) : OwnPai B w1 v zs := World.ownsRow.kept h hg hne
theorem OwnPai.below {B : Nat} {w w1 : World} {v : Value} {zs : List Pai} (h : OwnPai B w v zs) (hb : Below w.heap.size w w1) : OwnPai B w1 v zs :=
  World.ownsRow.kept h (row := none) ⟨hb.os, hb.tape, hb.output, hb.size, fun k hk _ => hb.block k hk⟩ (by cases v.ownBlock <;> simp)
theorem OwnPai.base {B : Nat} {w : World} {v : Value} {zs : List Pai} (h : OwnPai B w v zs) : ∀ k, v.ownBlock = some k → B ≤ k ∧ k < w.heap.size := World.ownsRow.lt h
/-- The first m of it, in the same place. -/
theorem OwnPai.cut {B : Nat} {w : World} {p : Option Addr} {n c : Nat} {zs : List Pai} (h : OwnPai B w (.slice p n c) zs) {m : Nat} (hm : m ≤ zs.length) : OwnPai B w (.slice p m c) (zs.take m) := by
  obtain ⟨hl, h⟩ := h
  have hlen : (zs.take m).length = m := by rw [List.length_take]; omega
  refine ⟨by rw [pai_flat_len], ?_⟩
  rw [hlen]
  rcases h with ⟨hv, h0⟩ | ⟨g, cap, cur, hv, h1, h2, h3, h4, h5, h6⟩
  · injection hv with e1 e2 e3
    subst e1 e3
    obtain rfl : m = 0 := by omega
    exact .inl ⟨rfl, rfl⟩
  · injection hv with e1 e2 e3
    subst e1 e3
    refine .inr ⟨g, c, cur, rfl, h1, h2, by omega, h4, h5, ?_⟩
    rw [← pai_flat_take, ← h6, List.take_take]
    congr 1
    have := Nat.mul_le_mul_right 2 hm
    omega
theorem pai_info : (Try.prog.info? 56).map (fun i => (i.zero, i.size, i.bytes)) = some (some (.agg #[.int .i64 0, .int .i64 0]), 2, 16) := by kernel_rfl
theorem run_append_pais {B base : Nat} {w : World} {v u : Value} {zs ys : List Pai} (ty : TypeId)
    (hB : B ≤ w.heap.size) (hown : OwnPai B w v zs) (hys : Pais base w u ys) (hl : zs.length + ys.length ≤ 1000000) :
    ∃ v' w', (Builtin.append_ #[51, 51] ty #[v, u]).run Try.prog w = .ok v' w' ∧ OwnPai B w' v' (zs ++ ys) ∧ w.grownBy w' v.ownBlock ∧ (v'.ownBlock = v.ownBlock ∨ v'.ownBlock = some w.heap.size) := by
  obtain ⟨i0, hi, hz0, hz1, hz2⟩ := info_parts pai_info
  rcases hys with ⟨⟨p, c, rfl, hpc⟩, rfl⟩ | ⟨g, o', c, rfl, _, _, _, hc⟩
  · cases p with
    | none =>
      obtain rfl := hpc rfl
      exact ⟨v, w, run_append_owned_none (P := Try.prog) (w := w) B 51 ty 56 i0 2 Try.underlying51 hi v zs.length (zs.flatMap Pai.vals) hown, by rw [List.append_nil]; exact hown, World.grownBy.refl _ _, .inl rfl⟩
    | some ad =>
      obtain ⟨v', w', hr, h2, h3, _, h5⟩ := run_append_own_at (P := Try.prog) w B 51 ty 56 i0 (.agg #[.int .i64 0, .int .i64 0]) 2 16 Try.underlying51 hi hz0 hz1 hz2 rfl (by decide) v zs.length (zs.flatMap Pai.vals) hown ad 0 c [] (by simp) (by simp) (by simp) (by simp only [maxLen]; omega) (by omega) hB
      refine ⟨v', w', hr, ?_, h3, h5⟩
      rw [List.append_nil]
      unfold OwnPai
      simpa using h2
  · obtain ⟨v', w', hr, h2, h3, _, h5⟩ := run_append_own_at (P := Try.prog) w B 51 ty 56 i0 (.agg #[.int .i64 0, .int .i64 0]) 2 16 Try.underlying51 hi hz0 hz1 hz2 rfl (by decide) v zs.length (zs.flatMap Pai.vals) hown ⟨g, o', none⟩ ys.length c (ys.flatMap Pai.vals) (pai_flat_len ys) (by
      intro t y hy
      have ht : t < ys.length * 2 := by rw [← pai_flat_len ys]; exact (List.getElem?_eq_some_iff.1 hy).1
      have hk : t / 2 < ys.length := by omega
      have hr : t % 2 < 2 := Nat.mod_lt _ (by decide)
      have e : t = t / 2 * 2 + t % 2 := by omega
      have hcc := hc (t / 2) hk
      rw [e, pai_flat_get ys _ _ hk hr] at hy
      rw [add_plain, e]
      generalize t / 2 = k at hcc hy
      generalize t % 2 = j at hr hy
      obtain ⟨c0, c1⟩ := hcc
      match j, hr, hy with
      | 0, _, hy => simp [Pai.vals] at hy; subst hy; simpa [Nat.add_assoc] using c0
      | 1, _, hy => simp [Pai.vals] at hy; subst hy; simpa [Nat.add_assoc] using c1) (pai_vals_one ys) (by simp only [maxLen]; omega) (by omega) hB
    refine ⟨v', w', hr, ?_, h3, h5⟩
    unfold OwnPai
    rw [List.length_append, List.flatMap_append]
    exact h2
/-- Some are put behind a slice of the call's own. -/
theorem append_pais {ops : Array Oper} {rest : List Oper} {o : Oper} {a : Act} {Q : Exit → Act → World → Prop} (hgd : o.guard = none) (s x : Operand)
    (ho : o.op = .call { callee := .builtin .append, args := #[s, x], argTypes := #[51, 51] }) {B base : Nat} {w : World} {v u : Value} {zs ys : List Pai}
    (hB : B ≤ w.heap.size) (hown : OwnPai B w v zs) (hs : a.eval s = v) (hys : Pais base w u ys) (hx : a.eval x = u) (hl : zs.length + ys.length ≤ 1000000)
    (h : ∀ v' w', OwnPai B w' v' (zs ++ ys) → w.grownBy w' v.ownBlock → (v'.ownBlock = v.ownBlock ∨ v'.ownBlock = some w.heap.size) → wpList Try.prog ops Q rest (a.put o.dst v') w') :
    wpList Try.prog ops Q (o :: rest) a w := by
  refine wpList_plain hgd fun K hK => ?_
  obtain ⟨v', w', hr, h2, h3, h5⟩ := run_append_pais o.type hB hown hys hl
  unfold Oper.wp execOp
  simp only [ho, resolve, invoke, builtin, Sem.run_bind, Sem.run_pure, Result.andThen_ok, List.map_toArray, List.map_cons, List.map_nil, hs, hx, hr]
  exact hK _ _ (h v' w' h2 h3 h5)
/-- The same, as one step of a region that draws its order. -/
theorem step_append_pais {ops : Array Oper} {o : Oper} {a : Act} {w : World} {K : Act → World → Prop} {Q : Exit → Act → World → Prop} {E : Prop} (hgd : o.guard = none) (s x : Operand)
    (ho : o.op = .call { callee := .builtin .append, args := #[s, x], argTypes := #[51, 51] }) {B base : Nat} {v u : Value} {zs ys : List Pai}
    (hB : B ≤ w.heap.size) (hown : OwnPai B w v zs) (hs : a.eval s = v) (hys : Pais base w u ys) (hx : a.eval x = u) (hl : zs.length + ys.length ≤ 1000000)
    (hK : ∀ v' w', OwnPai B w' v' (zs ++ ys) → w.grownBy w' v.ownBlock → (v'.ownBlock = v.ownBlock ∨ v'.ownBlock = some w.heap.size) → K (a.put o.dst v') w') :
    if Region.wanted o (yielded ops a.tmps) = true then Oper.wp Try.prog o a w K Q else E := by
  rw [if_pos (by simp [Region.wanted, hgd])]
  obtain ⟨v', w', hr, h2, h3, h5⟩ := run_append_pais o.type hB hown hys hl
  unfold Oper.wp
  simp [execOp, ho, resolve, invoke, builtin, hs, hx, hr, Result.andThen]
  exact hK v' w' h2 h3 h5
theorem OwnPai.lay {B : Nat} {w X : World} {v : Value} {zs : List Pai} (h : OwnPai B w v zs) (hx : X.heap = w.heap) (o : Obj) : OwnPai B (X.alloc o) v zs := by
  have h1 : OwnPai B X v zs := by
    unfold OwnPai World.ownsRow at *
    rw [hx]
    exact h
  exact World.ownsRow.alloc h1 o
theorem ownPai_empty {B : Nat} {W : World} {g : Nat} (hB : B ≤ g) (h : W.heap[g]? = some (.cells #[] 56)) : OwnPai B W (.slice (some ⟨g, 0, none⟩) 0 0) [] :=
  ⟨rfl, .inr ⟨g, 0, #[], rfl, hB, h, Nat.le_refl _, by simp [maxLen], rfl, rfl⟩⟩
/-- One that is typed out. -/
theorem pai_at {X : World} {g : Nat} (c : Pai) (h : X.heap[g]? = some (.cells #[.int .i64 c.k, .int .i64 c.v] 56)) : Pais 0 X (.slice (some ⟨g, 0, none⟩) 1 1) [c] := by
  refine .inr ⟨g, 0, 1, rfl, Nat.zero_le _, heap_lt h, by simp, fun k hk => ?_⟩
  have : k = 0 := by simpa using hk
  subst this
  simp only [World.cell?, h]
  simp
theorem pai_lit (c : Pai) (X : World) : Pais 0 (X.alloc (.cells #[.int .i64 c.k, .int .i64 c.v] 56)) (.slice (some ⟨X.heap.size, 0, none⟩) 1 1) [c] := pai_at c (heap_alloc_at _ _ _ rfl)

theorem pai_flat : flatB Try.prog 8 56 = true := by kernel_rfl
theorem pai_cells : Try.prog.cellsOf 56 = 2 := by kernel_rfl
section
variable {H : Type} {enc : TypeId × Value → H} {w : World}
set_option maxRecDepth 100000 in
theorem open_pais {r : Reach} {b0 : Nat} {v : Value} {d : DataW H} {p : List MemPlace} (hv : Value.okWide Try.prog w r b0 51 v) (h : DataW.Trod enc Try.prog w 0 (fun _ => true) true 51 v d p) : ∃ xs, (∃ p c, v = .slice p xs.length c ∧ xs.length ≤ c) ∧ Pais 0 w v xs ∧ ∀ x ∈ xs, Pai.ok x := by
  obtain ⟨q, len, cap, G, rfl, hqc, hlc, hl, hG, hc⟩ := open_flat Try.underlying51 pai_flat (by rw [pai_cells]; decide) hv h
  rw [pai_cells] at hc
  have hlen : ((List.range len).map fun k => (⟨G k 0, G k 1⟩ : Pai)).length = len := by simp
  refine ⟨(List.range len).map fun k => ⟨G k 0, G k 1⟩, ⟨q, cap, by rw [hlen], by rw [hlen]; exact hlc⟩, ?_, fun x hx => ?_⟩
  · by_cases h0 : len = 0
    · subst h0
      exact .inl ⟨⟨_, _, rfl, hqc⟩, rfl⟩
    · obtain ⟨g, o, hq, hg, _⟩ := hc 0 (by omega)
      subst hq
      refine .inr ⟨g, o, cap, by rw [hlen], Nat.zero_le _, hg, by rw [hlen]; exact hl, fun k hk => ?_⟩
      rw [hlen] at hk
      obtain ⟨g', o', hq, _, hcc⟩ := hc k hk
      simp only [Option.some.injEq, Addr.mk.injEq, and_true] at hq
      obtain ⟨rfl, rfl⟩ := hq
      have hget : ((List.range len).map fun k => (⟨G k 0, G k 1⟩ : Pai)).getD k Pai.zero = ⟨G k 0, G k 1⟩ := by simp [List.getD_eq_getElem?_getD, hk]
      rw [hget]
      exact ⟨hcc 0 (by omega), hcc 1 (by omega)⟩
  · obtain ⟨k, _, rfl⟩ := List.mem_map.1 hx
    exact ⟨hG k 0, hG k 1⟩
set_option maxRecDepth 100000 in
theorem open_pai {r : Reach} {b0 : Nat} {v : Value} {d : DataW H} {p : List MemPlace} {base : Nat} {spare : Nat → Bool} {held : Bool} (hv : Value.okWide Try.prog w r b0 56 v) (h : DataW.Trod enc Try.prog w base spare held 56 v d p) : ∃ x : Pai, Pai.ok x ∧ v = .agg #[.int .i64 x.k, .int .i64 x.v] := by
  obtain ⟨G, hG, hv'⟩ := open_flat1 Try.underlying56 pai_flat hv h
  rw [pai_cells] at hv'
  exact ⟨⟨G 0, G 1⟩, ⟨hG 0, hG 1⟩, hv'⟩
end
end Go.Proofs.Ytpbkclciipmonaa.F
namespace Go.Proofs.Ytpbkclciipmonaa.F
open Go.ChangeShapes Go.WideShapes Go.ChangeAt Go.RowKit Base
/-- A block has another object, all else is as it was. -/
def Stored (w : World) (g : Nat) (o : Obj) (w' : World) : Prop := w'.os = w.os ∧ w'.tape = w.tape ∧ w'.output = w.output ∧ w'.heap.size = w.heap.size ∧ w'.heap[g]? = some o ∧ ∀ k, k ≠ g → w'.heap[k]? = w.heap[k]?
theorem Stored.below {B : Nat} {w0 w w' : World} {g : Nat} {o : Obj} (h : Stored w g o w') (hb : Below B w0 w) (hg : B ≤ g) : Below B w0 w' :=
  ⟨h.1.trans hb.os, h.2.1.trans hb.tape, h.2.2.1.trans hb.output, by rw [h.2.2.2.1]; exact hb.size, fun k hk => (h.2.2.2.2.2 k (by omega)).trans (hb.block k hk)⟩
theorem stored_setRow (w : World) (g : Nat) (old cs : Array Value) (t : TypeId) (hg : w.heap[g]? = some (.cells old t)) : Stored w g (.cells cs t) (w.setRow g cs) :=
  ⟨rfl, rfl, rfl, size_setRow _ _ _, setRow_heap _ _ _ _ _ _ hg, fun _ hk => setRow_other _ _ _ _ hk⟩
end Go.Proofs.Ytpbkclciipmonaa.F
namespace Go.Proofs.Ytpbkclciipmonaa.F
open Go.ChangeShapes Go.WideShapes Go.ChangeAt Go.RowKit Base
def boxC (c : Cel) : Obj := .cells #[.int .i64 c.l, .int .i64 c.r, .int .i64 c.k, .int .i64 c.v, .int .i64 c.s, .int .i64 c.h] 86
theorem boxC_eq (c : Cel) : boxC c = .cells #[.int .i64 c.l, .int .i64 c.r, .int .i64 c.k, .int .i64 c.v, .int .i64 c.s, .int .i64 c.h] 86 := rfl
theorem cellsC {w : World} {g : Nat} {c : Cel} (h : w.heap[g]? = some (boxC c)) : g < w.heap.size ∧ w.cell? ⟨g, 0, none⟩ = some (.int .i64 c.l) ∧ w.cell? ⟨g, 1, none⟩ = some (.int .i64 c.r) ∧ w.cell? ⟨g, 2, none⟩ = some (.int .i64 c.k) ∧ w.cell? ⟨g, 3, none⟩ = some (.int .i64 c.v) ∧ w.cell? ⟨g, 4, none⟩ = some (.int .i64 c.s) ∧ w.cell? ⟨g, 5, none⟩ = some (.int .i64 c.h) := by
  refine ⟨heap_lt h, ?_⟩
  unfold boxC at h
  simp [World.cell?, h]
theorem frozC {w : World} {g : Nat} {c : Cel} (h : w.heap[g]? = some (boxC c)) : w.frozen? ⟨g, 0, none⟩ = false ∧ w.frozen? ⟨g, 1, none⟩ = false ∧ w.frozen? ⟨g, 2, none⟩ = false ∧ w.frozen? ⟨g, 3, none⟩ = false ∧ w.frozen? ⟨g, 4, none⟩ = false ∧ w.frozen? ⟨g, 5, none⟩ = false := by
  unfold boxC at h
  simp [World.frozen?, h]
set_option maxRecDepth 100000 in
/-- A cell stored into a box. -/
theorem wpList_store_cel {ops : Array Oper} {rest : List Oper} {o : Oper} {a : Act} {w : World} {Q : Exit → Act → World → Prop} (hgd : o.guard = none) (x y : Operand) (ho : o.op = .store 86 x y)
    (g : Nat) (c c0 : Cel) (hx : a.eval x = .pointer (some ⟨g, 0, none⟩)) (hy : a.eval y = .agg #[.int .i64 c.l, .int .i64 c.r, .int .i64 c.k, .int .i64 c.v, .int .i64 c.s, .int .i64 c.h]) (hg : w.heap[g]? = some (boxC c0))
    (h : ∀ w', Stored w g (boxC c) w' → wpList Try.prog ops Q rest (a.put o.dst undef) w') : wpList Try.prog ops Q (o :: rest) a w :=
  wpList_store_row hgd _ x y ho g _ hx hy 86 _ hg (by kernel_rfl) rfl (by simp [Value.oneCell']) (h _ (stored_setRow _ _ _ _ _ hg))
set_option maxRecDepth 100000 in
theorem wp_store_cel {o : Oper} {a : Act} {w : World} {K : Act → World → Prop} {Q : Exit → Act → World → Prop} (x y : Operand) (ho : o.op = .store 86 x y)
    (g : Nat) (c c0 : Cel) (hx : a.eval x = .pointer (some ⟨g, 0, none⟩)) (hy : a.eval y = .agg #[.int .i64 c.l, .int .i64 c.r, .int .i64 c.k, .int .i64 c.v, .int .i64 c.s, .int .i64 c.h]) (hg : w.heap[g]? = some (boxC c0))
    (h : ∀ w', Stored w g (boxC c) w' → K (a.put o.dst undef) w') : o.wp Try.prog a w K Q :=
  wp_store_row _ x y ho g _ hx hy 86 _ hg (by kernel_rfl) rfl (by simp [Value.oneCell']) (h _ (stored_setRow _ _ _ _ _ hg))
set_option maxRecDepth 100000 in
/-- A call's result, a cell in a box. -/
theorem results_cel {fn : Func} {p : Tmp} (h : fn.results = #[.cell p 86]) (tmps : Array Value) (w : World) (g : Nat) (c : Cel)
    (hp : tmps.getD p undef = .pointer (some ⟨g, 0, none⟩)) (hg : w.heap[g]? = some (boxC c)) : (results fn tmps).run Try.prog w = .ok (.agg #[.int .i64 c.l, .int .i64 c.r, .int .i64 c.k, .int .i64 c.v, .int .i64 c.s, .int .i64 c.h]) w :=
  results_cell_row h tmps w g _ _ _ _ hp hg Try.underlying86 rfl (by kernel_rfl)
end Go.Proofs.Ytpbkclciipmonaa.F
namespace Go.Proofs.Ytpbkclciipmonaa.F
open Go.ChangeShapes Go.WideShapes Go.ChangeAt Go.RowKit Base
/-- What a call that tells a map, and makes memory, leaves. -/
def MapIs (pv : Value) (root : Int) (w : World) (e : Ending) (w' : World) : Prop := e = .returned (.agg #[pv, .int .i64 root]) ∧ Below w.heap.size w w'
set_option maxRecDepth 100000 in
theorem pmnew_some (b : Nat) (w : World) : Calls Try.prog 20 #[.pointer (some ⟨b, 0, none⟩)] w (MapIs (.pointer (some ⟨b, 0, none⟩)) 0 w) := by
  go_enter Try.func20, Try.ntmps20
  go_wp2
  exact bodyPost_ret (v := .agg #[.pointer (some ⟨b, 0, none⟩), .int .i64 0]) (by simp [results, Try.results20, go_sem]) rfl ⟨rfl, by go_grown⟩
set_option maxRecDepth 100000 in
theorem pmnew_nil (w : World) : Calls Try.prog 20 #[.pointer none] w (MapIs (.pointer none) 0 w) := by
  go_enter Try.func20, Try.ntmps20
  go_wp2
  exact bodyPost_ret (v := .agg #[.pointer none, .int .i64 0]) (by simp [results, Try.results20, go_sem]) rfl ⟨rfl, by go_grown⟩
theorem pmnew {pv : Value} {o : Option Nat} {room : Nat} {zs : List Cel} {w : World} (h : ArV w pv o room zs) : Calls Try.prog 20 #[pv] w (MapIs pv 0 w) := by
  rcases h with ⟨rfl, _⟩ | ⟨b, rfl, _⟩
  · exact pmnew_nil w
  · exact pmnew_some b w
/-- What a call that tells a cell, and makes memory, leaves. -/
def CelIs (x : Cel) (w : World) (e : Ending) (w' : World) : Prop := e = .returned (.agg #[.int .i64 x.l, .int .i64 x.r, .int .i64 x.k, .int .i64 x.v, .int .i64 x.s, .int .i64 x.h]) ∧ Below w.heap.size w w'
set_option maxRecDepth 100000 in
set_option maxHeartbeats 4000000 in
theorem pmcell {pv : Value} {o : Option Nat} {room : Nat} {zs : List Cel} {w : World} (root i : Int) (h : ArV w pv o room zs) : Calls Try.prog 79 #[.agg #[pv, .int .i64 root], .int .i64 i] w (CelIs (celAt zs i) w) := by
  have HG : Hid (∀ wx, Below w.heap.size w wx → Calls Try.prog 74 #[pv, .int .i64 i] wx (GetPost (celAt zs i) (decide (1 ≤ i ∧ i ≤ (zs.length : Int))) wx)) := Lib.hid fun wx hb => arget_v i wx (h.below hb)
  generalize decide (1 ≤ i ∧ i ≤ (zs.length : Int)) = q at HG
  generalize celAt zs i = x at HG ⊢
  unfold GetPost Cel.agg at HG
  have hpv : ∃ a, pv = .pointer a := by
    rcases h with ⟨rfl, _⟩ | ⟨b, rfl, _⟩
    · exact ⟨_, rfl⟩
    · exact ⟨_, rfl⟩
  obtain ⟨a, rfl⟩ := hpv
  clear h
  go_enter Try.func79, Try.ntmps79
  go_wp2_with fail
  refine (HG.out _ (by go_grown)).mono ?_
  rintro e w1 ⟨rfl, hb⟩
  have HB : Hid (Below w.heap.size w w1) := Lib.hid (Below.trans (by go_grown) (hb.mono (by simp; omega)))
  have hz : w1.heap[w.heap.size + 1]? = some (.cells #[.int .i64 0, .int .i64 0, .int .i64 0, .int .i64 0, .int .i64 0, .int .i64 0] 86) := (hb.block _ (by simp)).trans (heap_alloc_at _ _ _ (by simp))
  have HZ : Hid ((w1.alloc (boxC x)).heap[w.heap.size + 1]? = some (boxC Cel.zero)) := Lib.hid (heap_alloc_lt w1 _ _ _ hz)
  have HB2 := Lib.hid (HB.out.alloc HB.out.size (boxC x))
  clear hb hz
  go_wp2_with (refine wpList_store_cel rfl (.tmp 4) (.tmp 14) rfl (w.heap.size + 1) x _ rfl rfl HZ.out ?_; intro w2 hst)
  exact bodyPost_ret (results_cel Try.results79 _ _ (w.heap.size + 1) x rfl hst.2.2.2.2.1) rfl ⟨rfl, hst.below HB2.out (by omega)⟩
set_option maxRecDepth 100000 in
theorem pmpair (x : Cel) (w : World) : Calls Try.prog 82 #[.agg #[.int .i64 x.l, .int .i64 x.r, .int .i64 x.k, .int .i64 x.v, .int .i64 x.s, .int .i64 x.h]] w fun e w' => e = .returned (.agg #[.int .i64 x.k, .int .i64 x.v]) ∧ Below w.heap.size w w' := by
  go_enter Try.func82, Try.ntmps82
  go_wp2
  exact bodyPost_ret (v := .agg #[.int .i64 x.k, .int .i64 x.v]) (by simp [results, Try.results82, go_sem]) rfl ⟨rfl, by go_grown⟩
end Go.Proofs.Ytpbkclciipmonaa.F
namespace Go.Proofs.Ytpbkclciipmonaa.F
open Go.ChangeShapes Go.WideShapes Go.ChangeAt Go.RowKit Base
/-- A builder's block. -/
def bld (pv : Value) (root had why : Int) : Obj := .cells #[pv, .int .i64 root, .int .i64 had, .int .i64 why] 118
/-- Block B is a builder, over an arena. -/
def BI (w : World) (B : Nat) (pv : Value) (o : Option Nat) (root had : Int) (room : Nat) (zs : List Cel) (why : Int) : Prop := w.heap[B]? = some (bld pv root had why) ∧ ArV w pv o room zs
theorem BI.nv {w : World} {B : Nat} {pv : Value} {o : Option Nat} {root had : Int} {room : Nat} {zs : List Cel} {why : Int} (h : BI w B pv o root had room zs why) : ¬ VF pv o B := fun k => by
  obtain ⟨hB, h⟩ := h
  unfold bld at hB
  rcases h with ⟨rfl, rfl, _, _⟩ | ⟨b, rfl, h⟩
  · rcases k with k | k <;> cases k
  · obtain ⟨_, _, _, _, v, hb, hown, rfl⟩ := h
    rcases k with k | k
    · injection k with k; injection k with k; injection k with k
      subst k
      rw [hb] at hB
      simp only [Option.some.injEq, Obj.cells.injEq] at hB
      exact absurd hB.2.1 (by decide)
    · rcases hown.2 with ⟨rfl, _⟩ | ⟨g, cap, cur, rfl, _, hg, _⟩
      · cases k
      · simp only [Value.ownBlock, Option.some.injEq] at k
        subst k
        rw [hg] at hB
        simp only [Option.some.injEq, Obj.cells.injEq] at hB
        exact absurd hB.2.1 (by decide)
theorem BI.below {w w' : World} {B : Nat} {pv : Value} {o : Option Nat} {root had : Int} {room : Nat} {zs : List Cel} {why : Int} (h : BI w B pv o root had room zs why) (hb : Below w.heap.size w w') : BI w' B pv o root had room zs why :=
  ⟨(hb.block _ (heap_lt h.1)).trans h.1, h.2.below hb⟩
/-- A builder's blocks. -/
def BF (B : Nat) (pv : Value) (o : Option Nat) (g : Nat) : Prop := g = B ∨ VF pv o g
theorem Mv.bf {B : Nat} {pv : Value} {o o' : Option Nat} {w : World} (h : Mv o o' w) (g : Nat) (hg : g < w.heap.size) (k : BF B pv o' g) : BF B pv o g := by
  rcases k with k | k
  · exact .inl k
  · exact .inr (h.vf g hg k)
/-- What a builder's call leaves: a value, more cells, an error or none; all but the builder and its arena is as it was. -/
def BP (B : Nat) (pv : Value) (o : Option Nat) (root had : Int) (room : Nat) (zs' : List Cel) (why' : Int) (v : Value) (w : World) (e : Ending) (w' : World) : Prop :=
  e = .returned v ∧ ∃ o', BI w' B pv o' root had room zs' why' ∧ Mv o o' w ∧ Fr (BF B pv o) w w'
theorem bcells {w : World} {B : Nat} {pv : Value} {root had why : Int} (h : w.heap[B]? = some (bld pv root had why)) : B < w.heap.size ∧ (w.cell? ⟨B, 0, none⟩ = some pv ∧ w.cell? ⟨B, 1, none⟩ = some (.int .i64 root)) ∧ (w.cell? ⟨B, 2, none⟩ = some (.int .i64 had) ∧ w.cell? ⟨B, 3, none⟩ = some (.int .i64 why)) ∧ w.frozen? ⟨B, 3, none⟩ = false := by
  refine ⟨heap_lt h, ?_⟩
  unfold bld at h
  simp [World.cell?, World.frozen?, h]
/-- What stays within a statement: the world ahead of it; some new boxes. -/
def RI (W1 w : World) (bs : List (Nat × Obj)) : Prop := Below W1.heap.size W1 w ∧ (∀ p ∈ bs, w.heap[p.1]? = some p.2 ∧ W1.heap.size ≤ p.1) ∧ bs.Pairwise (fun p q => p.1 ≠ q.1)
theorem RI.start (W1 : World) : RI W1 W1.drew [] := ⟨(Below.refl _ _).drew, fun _ hp => (List.not_mem_nil hp).elim, List.Pairwise.nil⟩
theorem RI.call {W1 w w' : World} {bs : List (Nat × Obj)} (h : RI W1 w bs) (hb : Below w.heap.size w w') : RI W1 w' bs :=
  ⟨h.1.trans (hb.mono h.1.size), fun p hp => ⟨(hb.block _ (heap_lt (h.2.1 p hp).1)).trans (h.2.1 p hp).1, (h.2.1 p hp).2⟩, h.2.2⟩
theorem RI.alloc {W1 w : World} {bs : List (Nat × Obj)} (h : RI W1 w bs) (o : Obj) : RI W1 (w.alloc o) ((w.heap.size, o) :: bs) := by
  have h2 := h.call ((Below.refl _ _).alloc (Nat.le_refl _) o)
  refine ⟨h2.1, fun p hp => ?_, List.Pairwise.cons (fun p hp e => ?_) h2.2.2⟩
  · rcases List.mem_cons.1 hp with rfl | hp
    · exact ⟨heap_alloc_at _ _ _ rfl, h.1.size⟩
    · exact h2.2.1 p hp
  · have := heap_lt (h.2.1 p hp).1
    simp only at e
    omega
theorem RI.store {W1 w w' : World} {g : Nat} {o o' : Obj} {bs : List (Nat × Obj)} (h : RI W1 w ((g, o) :: bs)) (hs : Stored w g o' w') : RI W1 w' ((g, o') :: bs) := by
  have hg := h.2.1 (g, o) (List.mem_cons_self ..)
  obtain ⟨hp1, hp2⟩ := List.pairwise_cons.1 h.2.2
  refine ⟨hs.below h.1 hg.2, fun p hp => ?_, List.pairwise_cons.2 ⟨hp1, hp2⟩⟩
  rcases List.mem_cons.1 hp with rfl | hp
  · exact ⟨hs.2.2.2.2.1, hg.2⟩
  · have := h.2.1 p (List.mem_cons_of_mem _ hp)
    exact ⟨(hs.2.2.2.2.2 p.1 (fun e => hp1 p hp e.symm)).trans this.1, this.2⟩
theorem RI.swap {W1 w : World} {p q : Nat × Obj} {bs : List (Nat × Obj)} (h : RI W1 w (p :: q :: bs)) : RI W1 w (q :: p :: bs) := by
  obtain ⟨hp1, hp2⟩ := List.pairwise_cons.1 h.2.2
  obtain ⟨hq1, hq2⟩ := List.pairwise_cons.1 hp2
  refine ⟨h.1, fun r hr => h.2.1 r ?_, List.pairwise_cons.2 ⟨fun r hr => ?_, List.pairwise_cons.2 ⟨fun r hr => hp1 r (List.mem_cons_of_mem _ hr), hq2⟩⟩⟩
  · rcases List.mem_cons.1 hr with rfl | hr
    · simp
    · rcases List.mem_cons.1 hr with rfl | hr
      · simp
      · simp [hr]
  · rcases List.mem_cons.1 hr with rfl | hr
    · exact fun e => hp1 q (List.mem_cons_self ..) e.symm
    · exact hq1 r hr
theorem RI.at_ {W1 w : World} {bs : List (Nat × Obj)} (h : RI W1 w bs) {g : Nat} {o : Obj} (hp : (g, o) ∈ bs) : w.heap[g]? = some o ∧ W1.heap.size ≤ g := h.2.1 (g, o) hp
/-- A box for a cell is made, in a drawn region. -/
theorem wp_alloc_cel {o : Oper} {a : Act} {w : World} {K : Act → World → Prop} {Q : Exit → Act → World → Prop} (ho : o.op = .alloc 86)
    (h : ∀ g w', g = w.heap.size → w' = w.alloc (boxC Cel.zero) → K (a.put o.dst (.pointer (some ⟨g, 0, none⟩))) w') : o.wp Try.prog a w K Q := by
  obtain ⟨dst, op, type, pos, after, guard⟩ := o
  simp only at ho
  subst ho
  go_simp
  exact h _ _ rfl rfl
/-- The cell with its size and height, by the two that it points to. -/
def sized (zs : List Cel) (c : Cel) : Cel := ⟨c.l, c.r, c.k, c.v, wrap64 (wrap64 ((celAt zs c.l).s + 1) + (celAt zs c.r).s), wrap64 (1 + if (celAt zs c.l).h < (celAt zs c.r).h then (celAt zs c.r).h else (celAt zs c.l).h)⟩
theorem wrap_range (x : Int) : -9223372036854775808 ≤ wrap64 x ∧ wrap64 x ≤ 9223372036854775807 := by
  unfold wrap64; omega
theorem sized_ok {zs : List Cel} {c : Cel} (h : c.ok) : (sized zs c).ok := ⟨h.1, h.2.1, h.2.2.1, h.2.2.2.1, wrap_range _, wrap_range _⟩
/-- What a builder's put makes: the cells, the error, the number. -/
def putM (room : Nat) (zs : List Cel) (why : Int) (c : Cel) : List Cel × Int × Int := if zs.length < room then (zs ++ [sized zs c], why, (zs.length : Int) + 1) else (zs, 2, 0)
theorem boxC_size {w : World} {g : Nat} {c : Cel} (h : w.heap[g]? = some (boxC c)) (s y : Int) : Stored w g (boxC ⟨c.l, c.r, c.k, c.v, s, y⟩) ((w.setCell ⟨g, 4, none⟩ (.int .i64 s)).setCell ⟨g, 5, none⟩ (.int .i64 y)) := by
  refine ⟨rfl, rfl, rfl, by simp [World.setCell], ?_, fun k hk => ?_⟩
  · unfold boxC at h ⊢
    simp [World.setCell, Array.getElem?_modify, h]
  · rw [Below.heap_setCell _ _ _ _ hk, Below.heap_setCell _ _ _ _ hk]
theorem BI.setwhy {w : World} {B : Nat} {pv : Value} {o : Option Nat} {root had : Int} {room : Nat} {zs : List Cel} {why : Int} (h : BI w B pv o root had room zs why) (y : Int) : BI (w.setCell ⟨B, 3, none⟩ (.int .i64 y)) B pv o root had room zs y ∧ Fr (fun g => g = B) w (w.setCell ⟨B, 3, none⟩ (.int .i64 y)) := by
  have hf : Fr (fun g => g = B) w (w.setCell ⟨B, 3, none⟩ (.int .i64 y)) := Fr.setCell (F := fun g => g = B) (Fr.refl _ _) (b := B) rfl 3 _
  have hn := h.nv
  refine ⟨⟨?_, h.2.fr hf (fun g hv e => hn (e ▸ hv))⟩, hf⟩
  have := h.1
  unfold bld at this ⊢
  simp [World.setCell, Array.getElem?_modify, this]
end Go.Proofs.Ytpbkclciipmonaa.F
namespace Go.Proofs.Ytpbkclciipmonaa.F
open Go.ChangeShapes Go.WideShapes Go.ChangeAt Go.RowKit Base
/-- A builder, on the way from w0 on; some boxes of the call's own. -/
def BS (B : Nat) (pv : Value) (root had : Int) (room : Nat) (w0 : World) (o0 : Option Nat) (w : World) (o : Option Nat) (zs : List Cel) (why : Int) (bs : List (Nat × Obj)) : Prop :=
  BI w B pv o root had room zs why ∧ Mv o0 o w0 ∧ Fr (BF B pv o0) w0 w ∧ (∀ p ∈ bs, w.heap[p.1]? = some p.2 ∧ ¬ BF B pv o p.1 ∧ w0.heap.size ≤ p.1) ∧ bs.Pairwise (fun p q => p.1 ≠ q.1)
section
variable {B : Nat} {pv : Value} {root had : Int} {room : Nat} {w0 w w' : World} {o0 o : Option Nat} {zs : List Cel} {why : Int} {bs : List (Nat × Obj)}
theorem BI.bf (h : BI w B pv o root had room zs why) {g : Nat} (k : BF B pv o g) : g < w.heap.size := by
  rcases k with rfl | k
  · exact heap_lt h.1
  · exact h.2.lt _ k
theorem BS.start (h : BI w B pv o root had room zs why) : BS B pv root had room w o w o zs why [] := ⟨h, Mv.refl _ _, Fr.refl _ _, fun _ hp => (List.not_mem_nil hp).elim, List.Pairwise.nil⟩
theorem BS.bi (h : BS B pv root had room w0 o0 w o zs why bs) : BI w B pv o root had room zs why := h.1
theorem BS.below (h : BS B pv root had room w0 o0 w o zs why bs) (hb : Below w.heap.size w w') : BS B pv root had room w0 o0 w' o zs why bs :=
  ⟨h.1.below hb, h.2.1, h.2.2.1.trans (Fr.of_below (F := fun _ => False) hb) (fun _ _ e => e.elim), fun p hp => ⟨(hb.block _ (heap_lt (h.2.2.2.1 p hp).1)).trans (h.2.2.2.1 p hp).1, (h.2.2.2.1 p hp).2⟩, h.2.2.2.2⟩
theorem BS.drew (h : BS B pv root had room w0 o0 w o zs why bs) : BS B pv root had room w0 o0 w.drew o zs why bs := h.below (Below.refl _ _).drew
theorem BS.alloc (h : BS B pv root had room w0 o0 w o zs why bs) (ob : Obj) : BS B pv root had room w0 o0 (w.alloc ob) o zs why ((w.heap.size, ob) :: bs) := by
  have h2 := h.below ((Below.refl _ _).alloc (Nat.le_refl _) ob)
  refine ⟨h2.1, h2.2.1, h2.2.2.1, fun p hp => ?_, List.Pairwise.cons (fun p hp e => ?_) h2.2.2.2.2⟩
  · rcases List.mem_cons.1 hp with rfl | hp
    · exact ⟨heap_alloc_at _ _ _ rfl, fun k => Nat.lt_irrefl _ (h.1.bf k), h.2.2.1.size⟩
    · exact h2.2.2.2.1 p hp
  · have := heap_lt (h.2.2.2.1 p hp).1
    simp only at e
    omega
theorem BS.store {g : Nat} {ob ob' : Obj} (h : BS B pv root had room w0 o0 w o zs why ((g, ob) :: bs)) (hs : Stored w g ob' w') : BS B pv root had room w0 o0 w' o zs why ((g, ob') :: bs) := by
  obtain ⟨h1, h2, h3, h4, h5⟩ := h
  have hg := h4 (g, ob) (List.mem_cons_self ..)
  obtain ⟨hp1, hp2⟩ := List.pairwise_cons.1 h5
  have hf : Fr (fun k => k = g) w w' := ⟨hs.1, hs.2.1, hs.2.2.1, by rw [hs.2.2.2.1]; exact Nat.le_refl _, fun k _ hn => hs.2.2.2.2.2 k hn⟩
  refine ⟨⟨(hs.2.2.2.2.2 B (fun e => hg.2.1 (.inl e.symm))).trans h1.1, h1.2.fr hf (fun k hv e => hg.2.1 (.inr (e ▸ hv)))⟩, h2, h3.trans hf (fun k hk e => by have := hg.2.2; simp only at this; omega), fun p hp => ?_, List.pairwise_cons.2 ⟨hp1, hp2⟩⟩
  rcases List.mem_cons.1 hp with rfl | hp
  · exact ⟨hs.2.2.2.2.1, hg.2⟩
  · have := h4 p (List.mem_cons_of_mem _ hp)
    exact ⟨(hs.2.2.2.2.2 p.1 (fun e => hp1 p hp e.symm)).trans this.1, this.2⟩
theorem BS.swap {p q : Nat × Obj} (h : BS B pv root had room w0 o0 w o zs why (p :: q :: bs)) : BS B pv root had room w0 o0 w o zs why (q :: p :: bs) := by
  obtain ⟨h1, h2, h3, h4, h5⟩ := h
  obtain ⟨hp1, hp2⟩ := List.pairwise_cons.1 h5
  obtain ⟨hq1, hq2⟩ := List.pairwise_cons.1 hp2
  refine ⟨h1, h2, h3, fun r hr => h4 r ?_, List.pairwise_cons.2 ⟨fun r hr => ?_, List.pairwise_cons.2 ⟨fun r hr => hp1 r (List.mem_cons_of_mem _ hr), hq2⟩⟩⟩
  · rcases List.mem_cons.1 hr with rfl | hr
    · simp
    · rcases List.mem_cons.1 hr with rfl | hr
      · simp
      · simp [hr]
  · rcases List.mem_cons.1 hr with rfl | hr
    · exact fun e => hp1 q (List.mem_cons_self ..) e.symm
    · exact hq1 r hr
theorem BS.rot {p q r : Nat × Obj} (h : BS B pv root had room w0 o0 w o zs why (p :: q :: r :: bs)) : BS B pv root had room w0 o0 w o zs why (r :: p :: q :: bs) := by
  obtain ⟨h1, h2, h3, h4, h5⟩ := h
  refine ⟨h1, h2, h3, fun x hx => h4 x (by simp only [List.mem_cons] at hx ⊢; rcases hx with e | e | e | e <;> simp [e]), ?_⟩
  simp only [List.pairwise_cons, List.mem_cons] at h5 ⊢
  obtain ⟨a, b, c, d⟩ := h5
  refine ⟨fun x hx => ?_, fun x hx => ?_, fun x hx => b x (.inr hx), d⟩
  · rcases hx with rfl | rfl | hx
    · exact fun e => a _ (.inr (.inl rfl)) e.symm
    · exact fun e => b _ (.inl rfl) e.symm
    · exact c x hx
  · rcases hx with rfl | hx
    · exact a _ (.inl rfl)
    · exact a _ (.inr (.inr hx))
theorem BS.at_ (h : BS B pv root had room w0 o0 w o zs why bs) {g : Nat} {ob : Obj} (hp : (g, ob) ∈ bs) : w.heap[g]? = some ob := (h.2.2.2.1 (g, ob) hp).1
theorem BS.call {zs' : List Cel} {why' : Int} {v : Value} {e : Ending} (h : BS B pv root had room w0 o0 w o zs why bs) (hs : BP B pv o root had room zs' why' v w e w') : e = .returned v ∧ ∃ o', Hid (BS B pv root had room w0 o0 w' o' zs' why' bs) := by
  obtain ⟨he, o', h1, h2, h3⟩ := hs
  obtain ⟨k1, k2, k3, k4, k5⟩ := h
  refine ⟨he, o', Lib.hid ⟨h1, k2.trans h2 k3.size, k3.trans h3 (fun g hg k => k2.bf g hg k), fun p hp => ?_, k5⟩⟩
  have := k4 p hp
  exact ⟨(h3.block (heap_lt this.1) this.2.1).trans this.1, fun k => this.2.1 (h2.bf _ (heap_lt this.1) k), this.2.2⟩
theorem BS.done (h : BS B pv root had room w0 o0 w o zs why bs) (v : Value) : BP B pv o0 root had room zs why v w0 (.returned v) w := ⟨rfl, o, h.1, h.2.1, h.2.2.1⟩
theorem BS.scells (h : BS B pv root had room w0 o0 w o zs why bs) : w.cell? ⟨B, 0, none⟩ = some pv ∧ w.cell? ⟨B, 1, none⟩ = some (.int .i64 root) := (bcells h.1.1).2.1
theorem BS.box (h : BS B pv root had room w0 o0 w o zs why bs) {g : Nat} {c : Cel} (hp : (g, boxC c) ∈ bs) : w.cell? ⟨g, 0, none⟩ = some (.int .i64 c.l) ∧ w.cell? ⟨g, 1, none⟩ = some (.int .i64 c.r) ∧ w.cell? ⟨g, 2, none⟩ = some (.int .i64 c.k) ∧ w.cell? ⟨g, 3, none⟩ = some (.int .i64 c.v) ∧ w.cell? ⟨g, 4, none⟩ = some (.int .i64 c.s) ∧ w.cell? ⟨g, 5, none⟩ = some (.int .i64 c.h) := (cellsC (h.at_ hp)).2
theorem BS.fro (h : BS B pv root had room w0 o0 w o zs why bs) {g : Nat} {c : Cel} (hp : (g, boxC c) ∈ bs) : w.frozen? ⟨g, 0, none⟩ = false ∧ w.frozen? ⟨g, 1, none⟩ = false ∧ w.frozen? ⟨g, 2, none⟩ = false ∧ w.frozen? ⟨g, 3, none⟩ = false ∧ w.frozen? ⟨g, 4, none⟩ = false ∧ w.frozen? ⟨g, 5, none⟩ = false := frozC (h.at_ hp)
end
theorem stored_cell {w : World} {g : Nat} {cs : Array Value} {t : TypeId} (h : w.heap[g]? = some (.cells cs t)) (k : Nat) (v : Value) : Stored w g (.cells (cs.setIfInBounds k v) t) (w.setCell ⟨g, k, none⟩ v) := by
  refine ⟨rfl, rfl, rfl, by simp [World.setCell], ?_, fun j hj => Below.heap_setCell _ _ _ _ hj⟩
  simp [World.setCell, Array.getElem?_modify, h]
theorem stored_l {w : World} {g : Nat} {c : Cel} (h : w.heap[g]? = some (boxC c)) (x : Int) : Stored w g (boxC ⟨x, c.r, c.k, c.v, c.s, c.h⟩) (w.setCell ⟨g, 0, none⟩ (.int .i64 x)) := stored_cell h 0 _
theorem stored_r {w : World} {g : Nat} {c : Cel} (h : w.heap[g]? = some (boxC c)) (x : Int) : Stored w g (boxC ⟨c.l, x, c.k, c.v, c.s, c.h⟩) (w.setCell ⟨g, 1, none⟩ (.int .i64 x)) := stored_cell h 1 _
theorem stored_k {w : World} {g : Nat} {c : Cel} (h : w.heap[g]? = some (boxC c)) (x : Int) : Stored w g (boxC ⟨c.l, c.r, x, c.v, c.s, c.h⟩) (w.setCell ⟨g, 2, none⟩ (.int .i64 x)) := stored_cell h 2 _
theorem stored_v {w : World} {g : Nat} {c : Cel} (h : w.heap[g]? = some (boxC c)) (x : Int) : Stored w g (boxC ⟨c.l, c.r, c.k, x, c.s, c.h⟩) (w.setCell ⟨g, 3, none⟩ (.int .i64 x)) := stored_cell h 3 _
/-- A field of a box is stored, in a drawn region. -/
theorem wp_store_fld {o : Oper} {a : Act} {w : World} {K : Act → World → Prop} {Q : Exit → Act → World → Prop} (x y : Operand) (ho : o.op = .store 3 x y)
    (g k : Nat) (z : Int) (c c' : Cel) (hk : k < 6) (hx : a.eval x = .pointer (some ⟨g, k, none⟩)) (hy : a.eval y = .int .i64 z) (hg : w.heap[g]? = some (boxC c)) (hc : (#[.int .i64 c.l, .int .i64 c.r, .int .i64 c.k, .int .i64 c.v, .int .i64 c.s, .int .i64 c.h] : Array Value).setIfInBounds k (.int .i64 z) = #[.int .i64 c'.l, .int .i64 c'.r, .int .i64 c'.k, .int .i64 c'.v, .int .i64 c'.s, .int .i64 c'.h])
    (h : ∀ w', Stored w g (boxC c') w' → K (a.put o.dst undef) w') : o.wp Try.prog a w K Q := by
  have hst := stored_cell hg k (.int .i64 z)
  rw [hc] at hst
  have h1 := (cellsC hg).2
  have h2 := frozC hg
  have hcell : ∃ v, w.cell? ⟨g, k, none⟩ = some v := by
    rcases (show k = 0 ∨ k = 1 ∨ k = 2 ∨ k = 3 ∨ k = 4 ∨ k = 5 by omega) with rfl | rfl | rfl | rfl | rfl | rfl <;> simp [h1]
  have hfro : w.frozen? ⟨g, k, none⟩ = false := by
    rcases (show k = 0 ∨ k = 1 ∨ k = 2 ∨ k = 3 ∨ k = 4 ∨ k = 5 by omega) with rfl | rfl | rfl | rfl | rfl | rfl <;> simp [h2]
  obtain ⟨v, hcell⟩ := hcell
  obtain ⟨dst, op, type, pos, after, guard⟩ := o
  simp only at ho
  subst ho
  have hK := h _ hst
  clear hst h1 h2 hc h hg
  unfold Oper.wp execOp
  simp only [hx, hy]
  go_simp
  exact hK
set_option maxRecDepth 100000 in
theorem fld_h (l r k v s h : Int) (w : World) : (Instr.field 86 (.agg #[.int .i64 l, .int .i64 r, .int .i64 k, .int .i64 v, .int .i64 s, .int .i64 h]) 5).run Try.prog w = .ok (.int .i64 h) w := by kernel_rfl
/-- A cell points to cells that are there. -/
theorem celAt_fit {zs : List Cel} (h : Bk zs) (i : Int) : fitC (celAt zs i) zs.length := by
  unfold celAt fitC
  split
  · rw [List.getD_eq_getElem?_getD]
    by_cases hi : i.toNat - 1 < zs.length
    · have := h _ _ (List.getElem?_eq_getElem hi)
      rw [List.getElem?_eq_getElem hi]
      simp only [Option.getD_some]
      omega
    · rw [List.getElem?_eq_none (by omega)]
      simp [Cel.zero]
  · simp [Cel.zero]
theorem celAt_ok {zs : List Cel} (h : ∀ x ∈ zs, x.ok) (i : Int) : (celAt zs i).ok := by
  have hz : Cel.zero.ok := by unfold Cel.ok Cel.zero; simp
  unfold celAt
  split
  · rw [List.getD_eq_getElem?_getD]
    by_cases hi : i.toNat - 1 < zs.length
    · rw [List.getElem?_eq_getElem hi]
      exact h _ (List.getElem_mem hi)
    · rw [List.getElem?_eq_none (by omega)]
      exact hz
  · exact hz
theorem putM_le (room : Nat) (zs : List Cel) (why : Int) (c : Cel) : zs.length ≤ (putM room zs why c).1.length ∧ 0 ≤ (putM room zs why c).2.2 ∧ (putM room zs why c).2.2 ≤ ((putM room zs why c).1.length : Int) := by
  unfold putM
  split
  · simp; omega
  · simp
theorem putM_le2 (room : Nat) (zs : List Cel) (why : Int) (c : Cel) : (putM room zs why c).1.length ≤ zs.length + 1 := by
  unfold putM
  split
  · simp
  · simp
theorem fitC.mono {c : Cel} {n m : Nat} (h : fitC c n) (hn : n ≤ m) : fitC c m := by
  unfold fitC at *
  omega
/-- What the builder's turns make. -/
def turnRM (room : Nat) (zs : List Cel) (why : Int) (c : Cel) : List Cel × Int × Int :=
  if (celAt zs (celAt zs c.l).r).h ≤ (celAt zs (celAt zs c.l).l).h then
    putM room (putM room zs why ⟨(celAt zs c.l).r, c.r, c.k, c.v, c.s, c.h⟩).1 (putM room zs why ⟨(celAt zs c.l).r, c.r, c.k, c.v, c.s, c.h⟩).2.1 ⟨(celAt zs c.l).l, (putM room zs why ⟨(celAt zs c.l).r, c.r, c.k, c.v, c.s, c.h⟩).2.2, (celAt zs c.l).k, (celAt zs c.l).v, (celAt zs c.l).s, (celAt zs c.l).h⟩
  else
    let m := celAt zs (celAt zs c.l).r
    let p1 := putM room zs why ⟨(celAt zs c.l).l, m.l, (celAt zs c.l).k, (celAt zs c.l).v, (celAt zs c.l).s, (celAt zs c.l).h⟩
    let p2 := putM room p1.1 p1.2.1 ⟨m.r, c.r, c.k, c.v, c.s, c.h⟩
    putM room p2.1 p2.2.1 ⟨p1.2.2, p2.2.2, m.k, m.v, m.s, m.h⟩
def turnLM (room : Nat) (zs : List Cel) (why : Int) (c : Cel) : List Cel × Int × Int :=
  if (celAt zs (celAt zs c.r).l).h ≤ (celAt zs (celAt zs c.r).r).h then
    putM room (putM room zs why ⟨c.l, (celAt zs c.r).l, c.k, c.v, c.s, c.h⟩).1 (putM room zs why ⟨c.l, (celAt zs c.r).l, c.k, c.v, c.s, c.h⟩).2.1 ⟨(putM room zs why ⟨c.l, (celAt zs c.r).l, c.k, c.v, c.s, c.h⟩).2.2, (celAt zs c.r).r, (celAt zs c.r).k, (celAt zs c.r).v, (celAt zs c.r).s, (celAt zs c.r).h⟩
  else
    let m := celAt zs (celAt zs c.r).l
    let p1 := putM room zs why ⟨m.r, (celAt zs c.r).r, (celAt zs c.r).k, (celAt zs c.r).v, (celAt zs c.r).s, (celAt zs c.r).h⟩
    let p2 := putM room p1.1 p1.2.1 ⟨c.l, m.l, c.k, c.v, c.s, c.h⟩
    putM room p2.1 p2.2.1 ⟨p2.2.2, p1.2.2, m.k, m.v, m.s, m.h⟩
def levelM (room : Nat) (zs : List Cel) (why : Int) (c : Cel) : List Cel × Int × Int :=
  if 1 < wrap64 ((celAt zs c.l).h - (celAt zs c.r).h) then turnRM room zs why c else if wrap64 ((celAt zs c.l).h - (celAt zs c.r).h) < -1 then turnLM room zs why c else putM room zs why c
end Go.Proofs.Ytpbkclciipmonaa.F
namespace Go.Proofs.Ytpbkclciipmonaa.F
/-- A tree of pairs. -/
inductive Tre where
  | nil
  | node (l : Tre) (k v : Int) (r : Tre)
namespace Tre
def size : Tre → Nat
  | nil => 0
  | node l _ _ r => l.size + 1 + r.size
def high : Tre → Nat
  | nil => 0
  | node l _ _ r => 1 + max l.high r.high
def list : Tre → List Pai
  | nil => []
  | node l k v r => l.list ++ ⟨k, v⟩ :: r.list
def bal : Tre → Prop
  | nil => True
  | node l _ _ r => l.bal ∧ r.bal ∧ l.high ≤ r.high + 1 ∧ r.high ≤ l.high + 1
theorem list_len (t : Tre) : t.list.length = t.size := by
  induction t with
  | nil => rfl
  | node l k v r h1 h2 => simp [list, size, h1, h2]; omega
theorem high_le_size (t : Tre) : t.high ≤ t.size := by
  induction t with
  | nil => simp [high]
  | node l k v r h1 h2 => simp only [high, size]; omega
/-- Two trees and what is between them, turned where they are not alike in height. -/
def turnR (l : Tre) (k v : Int) (r : Tre) : Tre := match l with
  | nil => node nil k v r
  | node ll lk lv lr => if lr.high ≤ ll.high then node ll lk lv (node lr k v r) else match lr with
    | nil => node (node ll lk lv nil) k v r
    | node m1 mk mv m2 => node (node ll lk lv m1) mk mv (node m2 k v r)
def turnL (l : Tre) (k v : Int) (r : Tre) : Tre := match r with
  | nil => node l k v nil
  | node rl rk rv rr => if rl.high ≤ rr.high then node (node l k v rl) rk rv rr else match rl with
    | nil => node l k v (node nil rk rv rr)
    | node m1 mk mv m2 => node (node l k v m1) mk mv (node m2 rk rv rr)
def lev (l : Tre) (k v : Int) (r : Tre) : Tre :=
  if r.high + 1 < l.high then turnR l k v r else if l.high + 1 < r.high then turnL l k v r else node l k v r
theorem turnR_list (l : Tre) (k v : Int) (r : Tre) : (turnR l k v r).list = l.list ++ ⟨k, v⟩ :: r.list := by
  unfold turnR
  split
  · rfl
  · split
    · simp [list]
    · split <;> simp [list]
theorem turnL_list (l : Tre) (k v : Int) (r : Tre) : (turnL l k v r).list = l.list ++ ⟨k, v⟩ :: r.list := by
  unfold turnL
  split
  · rfl
  · split
    · simp [list]
    · split <;> simp [list]
theorem lev_list (l : Tre) (k v : Int) (r : Tre) : (lev l k v r).list = l.list ++ ⟨k, v⟩ :: r.list := by
  unfold lev
  split
  · exact turnR_list ..
  · split
    · exact turnL_list ..
    · rfl
theorem turnR_bal {l r : Tre} (k v : Int) (hl : l.bal) (hr : r.bal) (h : l.high = r.high + 2) : (turnR l k v r).bal ∧ l.high ≤ (turnR l k v r).high ∧ (turnR l k v r).high ≤ l.high + 1 := by
  unfold turnR
  cases l with
  | nil => simp [high] at h
  | node ll lk lv lr =>
    simp only [bal, high] at hl h ⊢
    split
    · simp only [bal, high]; obtain ⟨h1, h2, h3, h4⟩ := hl; refine ⟨⟨h1, ⟨h2, hr, ?_, ?_⟩, ?_, ?_⟩, ?_, ?_⟩ <;> omega
    · cases lr with
      | nil => simp only [high] at *; omega
      | node m1 mk mv m2 =>
        simp only [bal, high] at *; obtain ⟨h1, ⟨h21, h22, h23, h24⟩, h3, h4⟩ := hl; refine ⟨⟨⟨h1, h21, ?_, ?_⟩, ⟨h22, hr, ?_, ?_⟩, ?_, ?_⟩, ?_, ?_⟩ <;> omega
theorem turnL_bal {l r : Tre} (k v : Int) (hl : l.bal) (hr : r.bal) (h : r.high = l.high + 2) : (turnL l k v r).bal ∧ r.high ≤ (turnL l k v r).high ∧ (turnL l k v r).high ≤ r.high + 1 := by
  unfold turnL
  cases r with
  | nil => simp [high] at h
  | node rl rk rv rr =>
    simp only [bal, high] at hr h ⊢
    split
    · simp only [bal, high]; obtain ⟨h1, h2, h3, h4⟩ := hr; refine ⟨⟨⟨hl, h1, ?_, ?_⟩, h2, ?_, ?_⟩, ?_, ?_⟩ <;> omega
    · cases rl with
      | nil => simp only [high] at *; omega
      | node m1 mk mv m2 =>
        simp only [bal, high] at *; obtain ⟨⟨h11, h12, h13, h14⟩, h2, h3, h4⟩ := hr; refine ⟨⟨⟨hl, h11, ?_, ?_⟩, ⟨h12, h2, ?_, ?_⟩, ?_, ?_⟩, ?_, ?_⟩ <;> omega
theorem lev_bal {l r : Tre} (k v : Int) (hl : l.bal) (hr : r.bal) (h1 : l.high ≤ r.high + 2) (h2 : r.high ≤ l.high + 2) : (lev l k v r).bal ∧ max l.high r.high ≤ (lev l k v r).high ∧ (lev l k v r).high ≤ max l.high r.high + 1 := by
  unfold lev
  split
  · have := turnR_bal k v hl hr (by omega); refine ⟨this.1, ?_, ?_⟩ <;> omega
  · split
    · have := turnL_bal k v hl hr (by omega); refine ⟨this.1, ?_, ?_⟩ <;> omega
    · simp only [bal, high]; refine ⟨⟨hl, hr, ?_, ?_⟩, ?_, ?_⟩ <;> omega
theorem lev_high {l r : Tre} (k v : Int) (h1 : l.high ≤ r.high + 1) (h2 : r.high ≤ l.high + 1) : lev l k v r = node l k v r := by
  unfold lev
  rw [if_neg (by omega), if_neg (by omega)]
/-- A pair put in. -/
def ins (key val : Int) : Tre → Tre
  | nil => node nil key val nil
  | node l k v r => if key < k then lev (ins key val l) k v r else if k < key then lev l k v (ins key val r) else lev l k val r
theorem ins_bal (key val : Int) {t : Tre} (h : t.bal) : (ins key val t).bal ∧ t.high ≤ (ins key val t).high ∧ (ins key val t).high ≤ t.high + 1 := by
  induction t with
  | nil => simp [ins, bal, high]
  | node l k v r h1 h2 =>
    simp only [bal] at h
    obtain ⟨hl, hr, h3, h4⟩ := h
    have h1 := h1 hl
    have h2 := h2 hr
    simp only [ins]
    split
    · by_cases e : (ins key val l).high ≤ r.high + 1
      · rw [lev_high _ _ (by omega) (by omega)]; simp only [bal, high]; refine ⟨⟨h1.1, hr, ?_, ?_⟩, ?_, ?_⟩ <;> omega
      · have := lev_bal k v h1.1 hr (by omega) (by omega); simp only [high]; refine ⟨this.1, ?_, ?_⟩ <;> omega
    · split
      · by_cases e : (ins key val r).high ≤ l.high + 1
        · rw [lev_high _ _ (by omega) (by omega)]; simp only [bal, high]; refine ⟨⟨hl, h2.1, ?_, ?_⟩, ?_, ?_⟩ <;> omega
        · have := lev_bal k v hl h2.1 (by omega) (by omega); simp only [high]; refine ⟨this.1, ?_, ?_⟩ <;> omega
      · rw [lev_high _ _ (by omega) (by omega)]; simp only [bal, high]; refine ⟨⟨hl, hr, ?_, ?_⟩, ?_, ?_⟩ <;> omega
/-- The first pair, and a tree of the others. -/
def pop : Tre → Pai × Tre
  | nil => (Pai.zero, nil)
  | node nil k v r => (⟨k, v⟩, r)
  | node (node a b c d) k v r => ((pop (node a b c d)).1, lev (pop (node a b c d)).2 k v r)
theorem pop_node (l : Tre) (k v : Int) (r : Tre) (h : l ≠ nil) : pop (node l k v r) = ((pop l).1, lev (pop l).2 k v r) := by
  cases l with
  | nil => exact absurd rfl h
  | node => rfl
theorem pop_list {t : Tre} (h : t ≠ nil) : t.list = (pop t).1 :: (pop t).2.list := by
  induction t with
  | nil => exact absurd rfl h
  | node l k v r h1 _ =>
    cases l with
    | nil => rfl
    | node a b c d =>
      have := h1 (by simp)
      rw [pop_node _ _ _ _ (by simp), lev_list, list, this]
      rfl
theorem pop_bal {t : Tre} (h : t.bal) (hn : t ≠ nil) : (pop t).2.bal ∧ t.high ≤ (pop t).2.high + 1 ∧ (pop t).2.high ≤ t.high := by
  induction t with
  | nil => exact absurd rfl hn
  | node l k v r h1 _ =>
    simp only [bal] at h
    obtain ⟨hl, hr, h3, h4⟩ := h
    cases l with
    | nil => simp only [pop, high] at *; refine ⟨hr, ?_, ?_⟩ <;> omega
    | node a b c d =>
      have h1 := h1 hl (by simp)
      rw [pop_node _ _ _ _ (by simp)]
      generalize node a b c d = l at *
      simp only [high]
      by_cases e : r.high ≤ (pop l).2.high + 1
      · rw [lev_high _ _ (by omega) (by omega)]; simp only [bal, high]; refine ⟨⟨h1.1, hr, ?_, ?_⟩, ?_, ?_⟩ <;> omega
      · have := lev_bal k v h1.1 hr (by omega) (by omega); refine ⟨this.1, ?_, ?_⟩ <;> omega
/-- A key taken out. -/
def del (key : Int) : Tre → Tre
  | nil => nil
  | node l k v r => if key < k then lev (del key l) k v r else if k < key then lev l k v (del key r)
    else match l with
      | nil => r
      | node a b c d => match r with
        | nil => node a b c d
        | node e f g h => lev (node a b c d) (pop (node e f g h)).1.k (pop (node e f g h)).1.v (pop (node e f g h)).2
theorem del_eq (l : Tre) (k v : Int) (r : Tre) (hl : l ≠ nil) (hr : r ≠ nil) : del k (node l k v r) = lev l (pop r).1.k (pop r).1.v (pop r).2 := by
  cases l with
  | nil => exact absurd rfl hl
  | node => cases r with
    | nil => exact absurd rfl hr
    | node => simp [del]
theorem del_bal (key : Int) {t : Tre} (h : t.bal) : (del key t).bal ∧ t.high ≤ (del key t).high + 1 ∧ (del key t).high ≤ t.high := by
  induction t with
  | nil => simp [del, bal, high]
  | node l k v r h1 h2 =>
    simp only [bal] at h
    obtain ⟨hl, hr, h3, h4⟩ := h
    have h1 := h1 hl
    have h2 := h2 hr
    by_cases c1 : key < k
    · simp only [del, if_pos c1]
      by_cases e : r.high ≤ (del key l).high + 1
      · rw [lev_high _ _ (by omega) (by omega)]; simp only [bal, high]; refine ⟨⟨h1.1, hr, ?_, ?_⟩, ?_, ?_⟩ <;> omega
      · have := lev_bal k v h1.1 hr (by omega) (by omega); simp only [high]; refine ⟨this.1, ?_, ?_⟩ <;> omega
    · by_cases c2 : k < key
      · simp only [del, if_neg c1, if_pos c2]
        by_cases e : l.high ≤ (del key r).high + 1
        · rw [lev_high _ _ (by omega) (by omega)]; simp only [bal, high]; refine ⟨⟨hl, h2.1, ?_, ?_⟩, ?_, ?_⟩ <;> omega
        · have := lev_bal k v hl h2.1 (by omega) (by omega); simp only [high]; refine ⟨this.1, ?_, ?_⟩ <;> omega
      · obtain rfl : key = k := by omega
        by_cases e1 : l = nil
        · subst e1; simp only [del, if_neg c1, high] at *; refine ⟨hr, ?_, ?_⟩ <;> omega
        · by_cases e2 : r = nil
          · subst e2
            cases l with
            | nil => exact absurd rfl e1
            | node => simp only [del, if_neg c1, high] at *; refine ⟨hl, ?_, ?_⟩ <;> omega
          · rw [del_eq _ _ _ _ e1 e2]
            have h5 := pop_bal hr e2
            by_cases e : l.high ≤ (pop r).2.high + 1
            · rw [lev_high _ _ (by omega) (by omega)]; simp only [bal, high]; refine ⟨⟨hl, h5.1, ?_, ?_⟩, ?_, ?_⟩ <;> omega
            · have := lev_bal (pop r).1.k (pop r).1.v hl h5.1 (by omega) (by omega); simp only [high]; refine ⟨this.1, ?_, ?_⟩ <;> omega
end Tre
end Go.Proofs.Ytpbkclciipmonaa.F
namespace Go.Proofs.Ytpbkclciipmonaa.F
open Go.ChangeShapes Go.WideShapes Go.ChangeAt Go.RowKit Base
/-- The tree at a number. -/
def Tr (zs : List Cel) : Tre → Int → Prop
  | .nil, i => i = 0
  | .node l k v r, i => (1 ≤ i ∧ i ≤ (zs.length : Int)) ∧ ∃ a b, celAt zs i = ⟨a, b, k, v, ((Tre.node l k v r).size : Int), ((Tre.node l k v r).high : Int)⟩ ∧ Tr zs l a ∧ Tr zs r b
theorem celAt_append {zs : List Cel} (ys : List Cel) {i : Int} (h : i ≤ (zs.length : Int)) : celAt (zs ++ ys) i = celAt zs i := by
  unfold celAt
  split
  · rw [List.getD_eq_getElem?_getD, List.getD_eq_getElem?_getD, List.getElem?_append_left (by omega)]
  · rfl
theorem celAt_snoc (zs : List Cel) (c : Cel) : celAt (zs ++ [c]) ((zs.length : Int) + 1) = c := by
  unfold celAt
  rw [if_pos (by omega), show ((zs.length : Int) + 1).toNat - 1 = zs.length by omega, List.getD_eq_getElem?_getD, List.getElem?_append_right (Nat.le_refl _)]
  simp
theorem celAt_zero (zs : List Cel) : celAt zs 0 = Cel.zero := rfl
theorem Tr.le {zs : List Cel} {t : Tre} {i : Int} (h : Tr zs t i) : 0 ≤ i ∧ i ≤ (zs.length : Int) := by
  cases t with
  | nil => simp only [Tr] at h; omega
  | node l k v r => have := h.1; omega
theorem Tr.append {zs : List Cel} (ys : List Cel) : ∀ {t : Tre} {i : Int}, Tr zs t i → Tr (zs ++ ys) t i
  | .nil, _, h => h
  | .node l k v r, i, h => by
    obtain ⟨h1, a, b, h2, h3, h4⟩ := h
    exact ⟨⟨h1.1, by rw [List.length_append]; omega⟩, a, b, by rw [celAt_append ys h1.2, h2], h3.append ys, h4.append ys⟩
theorem Tr.root {zs : List Cel} {t : Tre} {i : Int} (h : Tr zs t i) : (celAt zs i).s = (t.size : Int) ∧ (celAt zs i).h = (t.high : Int) := by
  cases t with
  | nil => simp only [Tr] at h; subst h; exact ⟨rfl, rfl⟩
  | node l k v r => obtain ⟨_, a, b, h2, _⟩ := h; rw [h2]; exact ⟨rfl, rfl⟩
/-- A tree that is not too great. -/
def small (t : Tre) : Prop := t.size ≤ 1000000
theorem sized_tr {zs : List Cel} {c : Cel} {l r : Tre} (hl : Tr zs l c.l) (hr : Tr zs r c.r) (h1 : l.size ≤ 2000000) (h2 : r.size ≤ 2000000) : sized zs c = ⟨c.l, c.r, c.k, c.v, ((Tre.node l c.k c.v r).size : Int), ((Tre.node l c.k c.v r).high : Int)⟩ := by
  have e1 := hl.root
  have e2 := hr.root
  have h3 := l.high_le_size
  have h4 := r.high_le_size
  unfold sized
  rw [e1.1, e1.2, e2.1, e2.2, IntWalk.wrap64_in ((l.size : Int) + 1) (by omega), IntWalk.wrap64_in ((l.size : Int) + 1 + (r.size : Int)) (by omega), IntWalk.wrap64_in (1 + _) (by split <;> omega)]
  simp only [Tre.size, Tre.high, Cel.mk.injEq, true_and]
  refine ⟨by omega, ?_⟩
  split <;> omega
theorem put_tr {zs : List Cel} {c : Cel} {l r : Tre} (hl : Tr zs l c.l) (hr : Tr zs r c.r) (h1 : l.size ≤ 2000000) (h2 : r.size ≤ 2000000) : Tr (zs ++ [sized zs c]) (.node l c.k c.v r) ((zs.length : Int) + 1) := by
  refine ⟨by simp; omega, c.l, c.r, ?_, hl.append _, hr.append _⟩
  rw [celAt_snoc, sized_tr hl hr h1 h2]
/-- What a builder's call makes: the tree, with no more cells than n; or there was no room for them. -/
def Out (room : Nat) (zs : List Cel) (n : Nat) (T : Tre) (R : List Cel × Int × Int) : Prop :=
  ∃ new, R.1 = zs ++ new ∧ ((R.2.1 = 0 ∧ Tr R.1 T R.2.2 ∧ new.length ≤ n) ∨ (R.2.1 = 2 ∧ R.1.length = room ∧ room < zs.length + n ∧ 0 ≤ R.2.2 ∧ R.2.2 ≤ (R.1.length : Int)))
theorem putM_yes {room : Nat} {zs : List Cel} (why : Int) (c : Cel) (h : zs.length < room) : putM room zs why c = (zs ++ [sized zs c], why, (zs.length : Int) + 1) := by unfold putM; rw [if_pos h]
theorem putM_no {room : Nat} {zs : List Cel} (why : Int) (c : Cel) (h : zs.length = room) : putM room zs why c = (zs, 2, 0) := by unfold putM; rw [if_neg (by omega)]
theorem turnRM_no {room : Nat} {zs : List Cel} (why : Int) (c : Cel) (h : zs.length = room) : turnRM room zs why c = (zs, 2, 0) := by
  unfold turnRM
  split <;> simp only [putM_no _ _ h]
theorem turnLM_no {room : Nat} {zs : List Cel} (why : Int) (c : Cel) (h : zs.length = room) : turnLM room zs why c = (zs, 2, 0) := by
  unfold turnLM
  split <;> simp only [putM_no _ _ h]
theorem levelM_no {room : Nat} {zs : List Cel} (why : Int) (c : Cel) (h : zs.length = room) : levelM room zs why c = (zs, 2, 0) := by
  unfold levelM
  split
  · exact turnRM_no _ _ h
  · split
    · exact turnLM_no _ _ h
    · exact putM_no _ _ h
theorem Out.full {room : Nat} {zs new : List Cel} {n : Nat} {T : Tre} (h : (zs ++ new).length = room) (hn : new.length < n) : Out room zs n T (zs ++ new, 2, 0) :=
  ⟨new, rfl, .inr ⟨rfl, h, by rw [List.length_append] at h; show room < zs.length + n; omega, Int.le_refl _, Int.natCast_nonneg _⟩⟩
theorem Out.ok {room : Nat} {zs new : List Cel} {n : Nat} {T : Tre} {i : Int} (h : Tr (zs ++ new) T i) (hn : new.length ≤ n) : Out room zs n T (zs ++ new, 0, i) := ⟨new, rfl, .inl ⟨rfl, h, hn⟩⟩
theorem Out.full0 {room : Nat} {zs : List Cel} {n : Nat} {T : Tre} (h : zs.length = room) (hn : 0 < n) : Out room zs n T (zs, 2, 0) := by
  have := Out.full (new := []) (T := T) (by simpa using h) hn
  simpa using this
theorem put_out {room : Nat} {zs : List Cel} {c : Cel} {l r : Tre} {n : Nat} (hz : zs.length ≤ room) (hl : Tr zs l c.l) (hr : Tr zs r c.r) (h1 : l.size ≤ 2000000) (h2 : r.size ≤ 2000000) (hn : 1 ≤ n) : Out room zs n (.node l c.k c.v r) (putM room zs 0 c) := by
  by_cases h : zs.length < room
  · rw [putM_yes _ _ h]; exact .ok (put_tr hl hr h1 h2) hn
  · rw [putM_no _ _ (by omega)]; exact .full0 (by omega) (by omega)
theorem turnR_out {room : Nat} {zs : List Cel} {c : Cel} {l r : Tre} (hz : zs.length ≤ room) (hl : Tr zs l c.l) (hr : Tr zs r c.r) (h1 : l.size ≤ 1000000) (h2 : r.size ≤ 1000000) (hh : r.high + 1 < l.high) : Out room zs 3 (Tre.turnR l c.k c.v r) (turnRM room zs 0 c) := by
  cases l with
  | nil => simp [Tre.high] at hh
  | node ll lk lv lr =>
    obtain ⟨hi, a, b, hc, ha, hb⟩ := hl
    unfold turnRM Tre.turnR
    rw [hc]
    simp only [Tre.size] at h1
    rw [hb.root.2, ha.root.2]
    by_cases hle : lr.high ≤ ll.high
    · rw [if_pos (by omega)]
      simp only [if_pos hle]
      by_cases q1 : zs.length < room
      · rw [putM_yes _ _ q1]
        simp only
        have t1 := put_tr (c := ⟨b, c.r, c.k, c.v, c.s, c.h⟩) hb hr (by omega) (by omega)
        generalize sized zs ⟨b, c.r, c.k, c.v, c.s, c.h⟩ = x1 at t1 ⊢
        have hs1 : (Tre.node lr c.k c.v r).size ≤ 2000000 := by simp only [Tre.size]; omega
        by_cases q2 : (zs ++ [x1]).length < room
        · rw [putM_yes _ _ q2]
          have t2 := put_tr (c := ⟨a, (zs.length : Int) + 1, lk, lv, ((Tre.node ll lk lv lr).size : Int), ((Tre.node ll lk lv lr).high : Int)⟩) (ha.append [x1]) t1 (by omega) hs1
          generalize sized (zs ++ [x1]) _ = x2 at t2 ⊢
          rw [List.append_assoc] at t2 ⊢
          exact .ok t2 (by simp)
        · rw [putM_no _ _ (show (zs ++ [x1]).length = room by simp at q2 ⊢; omega)]
          exact .full (by simp at q2 ⊢; omega) (by simp)
      · simp only [putM_no _ _ (show zs.length = room by omega)]
        exact .full0 (by omega) (by omega)
    · rw [if_neg (by omega)]
      simp only [if_neg hle]
      cases lr with
      | nil => simp [Tre.high] at hle
      | node m1 mk mv m2 =>
        obtain ⟨hi2, a2, b2, hc2, ha2, hb2⟩ := hb
        simp only [hc2]
        simp only [Tre.size] at h1
        by_cases q1 : zs.length < room
        · simp only [putM_yes _ _ q1]
          have t1 := put_tr (c := ⟨a, a2, lk, lv, ((Tre.node ll lk lv (Tre.node m1 mk mv m2)).size : Int), ((Tre.node ll lk lv (Tre.node m1 mk mv m2)).high : Int)⟩) ha ha2 (by omega) (by omega)
          generalize sized zs _ = x1 at t1 ⊢
          by_cases q2 : (zs ++ [x1]).length < room
          · simp only [putM_yes _ _ q2]
            have t2 := put_tr (c := ⟨b2, c.r, c.k, c.v, c.s, c.h⟩) (hb2.append [x1]) (hr.append [x1]) (by omega) (by omega)
            generalize sized (zs ++ [x1]) _ = x2 at t2 ⊢
            by_cases q3 : (zs ++ [x1] ++ [x2]).length < room
            · simp only [putM_yes _ _ q3]
              have t3 := put_tr (c := ⟨(zs.length : Int) + 1, ((zs ++ [x1]).length : Int) + 1, mk, mv, ((Tre.node m1 mk mv m2).size : Int), ((Tre.node m1 mk mv m2).high : Int)⟩) (t1.append [x2]) t2 (by simp only [Tre.size]; omega) (by simp only [Tre.size]; omega)
              generalize sized (zs ++ [x1] ++ [x2]) _ = x3 at t3 ⊢
              rw [List.append_assoc, List.append_assoc] at t3 ⊢
              exact .ok t3 (by simp)
            · simp only [putM_no _ _ (show (zs ++ [x1] ++ [x2]).length = room by simp at q2 q3 ⊢; omega)]
              rw [List.append_assoc]
              exact .full (by simp at q2 q3 ⊢; omega) (by simp)
          · simp only [putM_no _ _ (show (zs ++ [x1]).length = room by simp at q2 ⊢; omega)]
            exact .full (by simp at q2 ⊢; omega) (by simp)
        · simp only [putM_no _ _ (show zs.length = room by omega)]
          exact .full0 (by omega) (by omega)
theorem turnL_out {room : Nat} {zs : List Cel} {c : Cel} {l r : Tre} (hz : zs.length ≤ room) (hl : Tr zs l c.l) (hr : Tr zs r c.r) (h1 : l.size ≤ 1000000) (h2 : r.size ≤ 1000000) (hh : l.high + 1 < r.high) : Out room zs 3 (Tre.turnL l c.k c.v r) (turnLM room zs 0 c) := by
  cases r with
  | nil => simp [Tre.high] at hh
  | node rl rk rv rr =>
    obtain ⟨hi, a, b, hc, ha, hb⟩ := hr
    unfold turnLM Tre.turnL
    rw [hc]
    simp only [Tre.size] at h2
    rw [hb.root.2, ha.root.2]
    by_cases hle : rl.high ≤ rr.high
    · rw [if_pos (by omega)]
      simp only [if_pos hle]
      by_cases q1 : zs.length < room
      · rw [putM_yes _ _ q1]
        simp only
        have t1 := put_tr (c := ⟨c.l, a, c.k, c.v, c.s, c.h⟩) hl ha (by omega) (by omega)
        generalize sized zs ⟨c.l, a, c.k, c.v, c.s, c.h⟩ = x1 at t1 ⊢
        have hs1 : (Tre.node l c.k c.v rl).size ≤ 2000000 := by simp only [Tre.size]; omega
        by_cases q2 : (zs ++ [x1]).length < room
        · rw [putM_yes _ _ q2]
          have t2 := put_tr (c := ⟨(zs.length : Int) + 1, b, rk, rv, ((Tre.node rl rk rv rr).size : Int), ((Tre.node rl rk rv rr).high : Int)⟩) t1 (hb.append [x1]) hs1 (by omega)
          generalize sized (zs ++ [x1]) _ = x2 at t2 ⊢
          rw [List.append_assoc] at t2 ⊢
          exact .ok t2 (by simp)
        · rw [putM_no _ _ (show (zs ++ [x1]).length = room by simp at q2 ⊢; omega)]
          exact .full (by simp at q2 ⊢; omega) (by simp)
      · simp only [putM_no _ _ (show zs.length = room by omega)]
        exact .full0 (by omega) (by omega)
    · rw [if_neg (by omega)]
      simp only [if_neg hle]
      cases rl with
      | nil => simp [Tre.high] at hle
      | node m1 mk mv m2 =>
        obtain ⟨hi2, a2, b2, hc2, ha2, hb2⟩ := ha
        simp only [hc2]
        simp only [Tre.size] at h2
        by_cases q1 : zs.length < room
        · simp only [putM_yes _ _ q1]
          have t1 := put_tr (c := ⟨b2, b, rk, rv, ((Tre.node (Tre.node m1 mk mv m2) rk rv rr).size : Int), ((Tre.node (Tre.node m1 mk mv m2) rk rv rr).high : Int)⟩) hb2 hb (by omega) (by omega)
          generalize sized zs _ = x1 at t1 ⊢
          by_cases q2 : (zs ++ [x1]).length < room
          · simp only [putM_yes _ _ q2]
            have t2 := put_tr (c := ⟨c.l, a2, c.k, c.v, c.s, c.h⟩) (hl.append [x1]) (ha2.append [x1]) (by omega) (by omega)
            generalize sized (zs ++ [x1]) _ = x2 at t2 ⊢
            by_cases q3 : (zs ++ [x1] ++ [x2]).length < room
            · simp only [putM_yes _ _ q3]
              have t3 := put_tr (c := ⟨((zs ++ [x1]).length : Int) + 1, (zs.length : Int) + 1, mk, mv, ((Tre.node m1 mk mv m2).size : Int), ((Tre.node m1 mk mv m2).high : Int)⟩) t2 (t1.append [x2]) (by simp only [Tre.size]; omega) (by simp only [Tre.size]; omega)
              generalize sized (zs ++ [x1] ++ [x2]) _ = x3 at t3 ⊢
              rw [List.append_assoc, List.append_assoc] at t3 ⊢
              exact .ok t3 (by simp)
            · simp only [putM_no _ _ (show (zs ++ [x1] ++ [x2]).length = room by simp at q2 q3 ⊢; omega)]
              rw [List.append_assoc]
              exact .full (by simp at q2 q3 ⊢; omega) (by simp)
          · simp only [putM_no _ _ (show (zs ++ [x1]).length = room by simp at q2 ⊢; omega)]
            exact .full (by simp at q2 ⊢; omega) (by simp)
        · simp only [putM_no _ _ (show zs.length = room by omega)]
          exact .full0 (by omega) (by omega)
theorem level_out {room : Nat} {zs : List Cel} {c : Cel} {l r : Tre} (hz : zs.length ≤ room) (hl : Tr zs l c.l) (hr : Tr zs r c.r) (h1 : l.size ≤ 1000000) (h2 : r.size ≤ 1000000) : Out room zs 3 (Tre.lev l c.k c.v r) (levelM room zs 0 c) := by
  have h3 := l.high_le_size
  have h4 := r.high_le_size
  unfold levelM Tre.lev
  rw [hl.root.2, hr.root.2, IntWalk.wrap64_in _ (by omega)]
  by_cases q1 : r.high + 1 < l.high
  · rw [if_pos q1, if_pos (show (1 : Int) < (l.high : Int) - (r.high : Int) by omega)]
    exact turnR_out hz hl hr h1 h2 q1
  · rw [if_neg q1, if_neg (show ¬ (1 : Int) < (l.high : Int) - (r.high : Int) by omega)]
    by_cases q2 : l.high + 1 < r.high
    · rw [if_pos q2, if_pos (show (l.high : Int) - (r.high : Int) < -1 by omega)]
      exact turnL_out hz hl hr h1 h2 q2
    · rw [if_neg q2, if_neg (show ¬ (l.high : Int) - (r.high : Int) < -1 by omega)]
      exact put_out hz hl hr (by omega) (by omega) (by omega)
/-- A level behind a call that made the left tree. -/
theorem out_left {room : Nat} {zs : List Cel} {n : Nat} {T r : Tre} {R : List Cel × Int × Int} {b k v s h : Int} (hR : Out room zs n T R) (hr : Tr zs r b) (h1 : T.size ≤ 1000000) (h2 : r.size ≤ 1000000) (hb : R.1.length ≤ room) : Out room zs (n + 3) (Tre.lev T k v r) (levelM room R.1 R.2.1 ⟨R.2.2, b, k, v, s, h⟩) := by
  obtain ⟨zs1, why1, i1⟩ := R
  obtain ⟨new, he, h | h⟩ := hR
  · simp only at he h hb ⊢
    obtain ⟨rfl, ht, hn⟩ := h
    subst he
    obtain ⟨new2, he2, h3⟩ := level_out (c := ⟨i1, b, k, v, s, h⟩) hb ht (hr.append new) h1 h2
    refine ⟨new ++ new2, by rw [he2, List.append_assoc], ?_⟩
    rcases h3 with ⟨x1, x2, x3⟩ | ⟨x1, x2, x3, x4⟩
    · exact .inl ⟨x1, x2, by rw [List.length_append]; omega⟩
    · exact .inr ⟨x1, x2, by rw [List.length_append] at x3; omega, x4⟩
  · simp only at he h hb ⊢
    obtain ⟨rfl, hf, hn, _⟩ := h
    subst he
    rw [levelM_no _ _ hf]
    exact ⟨new, rfl, .inr ⟨rfl, hf, by omega, Int.le_refl _, Int.natCast_nonneg _⟩⟩
theorem out_right {room : Nat} {zs : List Cel} {n : Nat} {T l : Tre} {R : List Cel × Int × Int} {a k v s h : Int} (hR : Out room zs n T R) (hl : Tr zs l a) (h1 : T.size ≤ 1000000) (h2 : l.size ≤ 1000000) (hb : R.1.length ≤ room) : Out room zs (n + 3) (Tre.lev l k v T) (levelM room R.1 R.2.1 ⟨a, R.2.2, k, v, s, h⟩) := by
  obtain ⟨zs1, why1, i1⟩ := R
  obtain ⟨new, he, h | h⟩ := hR
  · simp only at he h hb ⊢
    obtain ⟨rfl, ht, hn⟩ := h
    subst he
    obtain ⟨new2, he2, h3⟩ := level_out (c := ⟨a, i1, k, v, s, h⟩) hb (hl.append new) ht h2 h1
    refine ⟨new ++ new2, by rw [he2, List.append_assoc], ?_⟩
    rcases h3 with ⟨x1, x2, x3⟩ | ⟨x1, x2, x3, x4⟩
    · exact .inl ⟨x1, x2, by rw [List.length_append]; omega⟩
    · exact .inr ⟨x1, x2, by rw [List.length_append] at x3; omega, x4⟩
  · simp only at he h hb ⊢
    obtain ⟨rfl, hf, hn, _⟩ := h
    subst he
    rw [levelM_no _ _ hf]
    exact ⟨new, rfl, .inr ⟨rfl, hf, by omega, Int.le_refl _, Int.natCast_nonneg _⟩⟩
namespace Tre
theorem lev_size (l : Tre) (k v : Int) (r : Tre) : (lev l k v r).size = l.size + 1 + r.size := by
  rw [← list_len, lev_list, List.length_append, List.length_cons, list_len, list_len]; omega
theorem ins_size (key val : Int) (t : Tre) : (ins key val t).size ≤ t.size + 1 := by
  induction t with
  | nil => simp [ins, size]
  | node l k v r h1 h2 =>
    simp only [ins]
    split
    · rw [lev_size]; simp only [size]; omega
    · split
      · rw [lev_size]; simp only [size]; omega
      · rw [lev_size]; simp only [size]; omega
theorem pop_size {t : Tre} (h : t ≠ nil) : t.size = (pop t).2.size + 1 := by
  rw [← list_len, pop_list h, List.length_cons, list_len]
theorem del_size (key : Int) (t : Tre) : (del key t).size ≤ t.size := by
  induction t with
  | nil => simp [del]
  | node l k v r h1 h2 =>
    by_cases c1 : key < k
    · simp only [del, if_pos c1]; rw [lev_size]; simp only [size]; omega
    · by_cases c2 : k < key
      · simp only [del, if_neg c1, if_pos c2]; rw [lev_size]; simp only [size]; omega
      · obtain rfl : key = k := by omega
        by_cases e1 : l = nil
        · subst e1; simp only [del, if_neg c1, size]; omega
        · by_cases e2 : r = nil
          · subst e2
            cases l with
            | nil => exact absurd rfl e1
            | node => simp only [del, if_neg c1, size]; omega
          · rw [del_eq _ _ _ _ e1 e2, lev_size]
            have := pop_size e2
            simp only [size]; omega
end Tre
/-- What a builder's call leaves: the tree, with no more cells than n; or there was no room for them. -/
def BO (B : Nat) (pv : Value) (o : Option Nat) (root had : Int) (room : Nat) (zs : List Cel) (n : Nat) (T : Tre) (w : World) (e : Ending) (w' : World) : Prop :=
  ∃ R, Out room zs n T R ∧ R.1.length ≤ room ∧ BP B pv o root had room R.1 R.2.1 (.int .i64 R.2.2) w e w'
theorem BP.len {B : Nat} {pv : Value} {o : Option Nat} {root had : Int} {room : Nat} {zs : List Cel} {why : Int} {v : Value} {w : World} {e : Ending} {w' : World} (h : BP B pv o root had room zs why v w e w') : zs.length ≤ room := by
  obtain ⟨_, o', h, _⟩ := h
  exact h.2.le.1
theorem Out.idx {room : Nat} {zs : List Cel} {n : Nat} {T : Tre} {R : List Cel × Int × Int} (h : Out room zs n T R) : 0 ≤ R.2.2 ∧ R.2.2 ≤ (R.1.length : Int) ∧ zs.length ≤ R.1.length := by
  obtain ⟨new, he, h⟩ := h
  have : zs.length ≤ R.1.length := by rw [he, List.length_append]; omega
  rcases h with ⟨_, h, _⟩ | ⟨_, _, _, h1, h2⟩
  · have := h.le; exact ⟨this.1, this.2, by assumption⟩
  · exact ⟨h1, h2, this⟩
theorem Out.mono {room : Nat} {zs : List Cel} {n m : Nat} {T : Tre} {R : List Cel × Int × Int} (h : Out room zs n T R) (hn : n ≤ m) : Out room zs m T R := by
  obtain ⟨new, he, h⟩ := h
  refine ⟨new, he, ?_⟩
  rcases h with ⟨h1, h2, h3⟩ | ⟨h1, h2, h3, h4⟩
  · exact .inl ⟨h1, h2, by omega⟩
  · exact .inr ⟨h1, h2, by omega, h4⟩
end Go.Proofs.Ytpbkclciipmonaa.F
namespace Go.Proofs.Ytpbkclciipmonaa.F
open Go.ChangeShapes Go.WideShapes Go.ChangeAt Go.RowKit Base
/-- What becomes of a map: another one, and more cells; or there was no room, and the cells are as they were. -/
def MRes (P : List Cel → Int → Prop) (Z : Prop) (zs zs' : List Cel) (root' why : Int) : Prop := (why = 0 ∧ P zs' root') ∨ (why = 2 ∧ zs' = zs ∧ root' = 0 ∧ Z)
/-- What Put, Del, Move leave. -/
def MP (pv : Value) (o : Option Nat) (room : Nat) (zs : List Cel) (P : List Cel → Int → Prop) (Z : Prop) (w : World) (e : Ending) (w' : World) : Prop :=
  ∃ root' why zs' o', e = .returned (.tuple #[.agg #[pv, .int .i64 root'], .int .i64 why]) ∧ ArV w' pv o' room zs' ∧ Mv o o' w ∧ Fr (VF pv o) w w' ∧ MRes P Z zs zs' root' why
def PutP (zs : List Cel) (n : Nat) (T : Tre) (zs' : List Cel) (root' : Int) : Prop := (∃ new, zs' = zs ++ new ∧ new.length ≤ n) ∧ Tr zs' T root'
theorem Out.fin {room : Nat} {zs : List Cel} {n : Nat} {T : Tre} {R : List Cel × Int × Int} (h : Out room zs n T R) : (∃ new, R.1 = zs ++ new) ∧ ((R.2.1 = 0 ∧ PutP zs n T R.1 R.2.2) ∨ (R.2.1 = 2 ∧ room < zs.length + n)) := by
  obtain ⟨new, he, h⟩ := h
  refine ⟨⟨new, he⟩, ?_⟩
  rcases h with ⟨h1, h2, h3⟩ | ⟨h1, _, h3, _⟩
  · exact .inl ⟨h1, ⟨new, he, h3⟩, h2⟩
  · exact .inr ⟨h1, h3⟩
theorem Tr.down {zs : List Cel} (h : Bk zs) {k v i a b : Int} {s y : Int} (hi : 1 ≤ i ∧ i ≤ (zs.length : Int)) (hc : celAt zs i = ⟨a, b, k, v, s, y⟩) : a < i ∧ b < i := by
  unfold celAt at hc
  rw [if_pos hi.1, List.getD_eq_getElem?_getD, List.getElem?_eq_getElem (by omega)] at hc
  have := h _ _ (List.getElem?_eq_getElem (show i.toNat - 1 < zs.length by omega))
  simp only [Option.getD_some] at hc
  rw [hc] at this
  simp only at this
  omega
/-- What a call that tells a number and a bool, and makes memory, leaves. -/
def IntBoolM (i : Int) (is : Bool) (w : World) (e : Ending) (w' : World) : Prop := e = .returned (.tuple #[.int .i64 i, .bool is]) ∧ Below w.heap.size w w'
/-- What Move makes: the pairs' tree, of just as many cells. -/
def MoveP (zs : List Cel) (n : Nat) (T : Tre) (zs' : List Cel) (root' : Int) : Prop := (∃ new, zs' = zs ++ new ∧ new.length = n) ∧ Tr zs' T root'
end Go.Proofs.Ytpbkclciipmonaa.F
namespace Go.Proofs.Ytpbkclciipmonaa.F
open Go.ChangeShapes Go.WideShapes Go.ChangeAt Go.RowKit Base
/-- How high such a tree is. -/
def hg (n : Nat) : Nat := if n = 0 then 0 else 1 + hg (n / 2)
termination_by n
decreasing_by omega
theorem hg_zero : hg 0 = 0 := by rw [hg]; rfl
theorem hg_pos {n : Nat} (h : 0 < n) : hg n = 1 + hg (n / 2) := by rw [hg, if_neg (by omega)]
theorem hg_step : ∀ n, hg n ≤ hg (n + 1) ∧ hg (n + 1) ≤ hg n + 1 := by
  intro n
  induction n using Nat.strongRecOn with
  | ind n ih =>
    by_cases h : n = 0
    · subst h; have e := hg_pos (show 0 < 1 by omega); rw [show 1 / 2 = 0 from rfl, hg_zero] at e; rw [hg_zero, Nat.zero_add, e]; omega
    · rw [hg_pos (show 0 < n by omega), hg_pos (show 0 < n + 1 by omega)]
      rcases (show (n + 1) / 2 = n / 2 ∨ (n + 1) / 2 = n / 2 + 1 by omega) with e | e
      · rw [e]; omega
      · rw [e]; have := ih (n / 2) (by omega); omega
/-- What the builder's all makes: a tree of just as many cells; or there was no room for them. -/
def OutX (room : Nat) (zs : List Cel) (n : Nat) (T : Tre) (R : List Cel × Int × Int) : Prop :=
  ∃ new, R.1 = zs ++ new ∧ ((R.2.1 = 0 ∧ Tr R.1 T R.2.2 ∧ new.length = n) ∨ (R.2.1 = 2 ∧ R.1.length = room ∧ room < zs.length + n ∧ R.2.2 = 0))
/-- The same, whether there was room ahead of it or not. -/
def OX (room : Nat) (zs : List Cel) (why : Int) (n : Nat) (T : Tre) (R : List Cel × Int × Int) : Prop := (why = 0 ∧ OutX room zs n T R) ∨ (why = 2 ∧ zs.length = room ∧ R = (zs, 2, 0))
theorem OX.st {room : Nat} {zs : List Cel} {why : Int} {n : Nat} {T : Tre} {R : List Cel × Int × Int} (h : OX room zs why n T R) : (R.2.1 = 0 ∨ (R.2.1 = 2 ∧ R.1.length = room)) ∧ (0 ≤ R.2.2 ∧ R.2.2 ≤ (R.1.length : Int)) ∧ zs.length ≤ R.1.length := by
  rcases h with ⟨_, new, he, ⟨h1, h2, _⟩ | ⟨h1, h2, _, h3⟩⟩ | ⟨_, h1, rfl⟩
  · exact ⟨.inl h1, h2.le, by rw [he, List.length_append]; omega⟩
  · exact ⟨.inr ⟨h1, h2⟩, by omega, by rw [he, List.length_append]; omega⟩
  · exact ⟨.inr ⟨rfl, h1⟩, ⟨Int.le_refl _, Int.natCast_nonneg _⟩, Nat.le_refl _⟩
theorem all_comb {room : Nat} {zs : List Cel} {why : Int} {n1 n2 : Nat} {T1 T2 : Tre} {R1 R2 : List Cel × Int × Int} {k v : Int} (h1 : OX room zs why n1 T1 R1) (h2 : OX room R1.1 R1.2.1 n2 T2 R2) (hs1 : T1.size ≤ 1000000) (hs2 : T2.size ≤ 1000000) (hl : R2.1.length ≤ room) :
    OX room zs why (n1 + n2 + 1) (.node T1 k v T2) (putM room R2.1 R2.2.1 ⟨R1.2.2, R2.2.2, k, v, 0, 0⟩) := by
  rcases h1 with ⟨rfl, new1, e1, a1⟩ | ⟨rfl, f1, rfl⟩
  · refine .inl ⟨rfl, ?_⟩
    rcases a1 with ⟨b1, t1, l1⟩ | ⟨b1, f1, l1, i1⟩
    · rcases h2 with ⟨_, new2, e2, a2⟩ | ⟨c2, _, _⟩
      · rcases a2 with ⟨b2, t2, l2⟩ | ⟨b2, f2, l2, i2⟩
        · rw [b2]
          have ht1 : Tr R2.1 T1 R1.2.2 := by rw [e2]; exact t1.append _
          by_cases hr : R2.1.length < room
          · rw [putM_yes _ _ hr]
            refine ⟨new1 ++ (new2 ++ [sized R2.1 ⟨R1.2.2, R2.2.2, k, v, 0, 0⟩]), ?_, .inl ⟨rfl, put_tr (c := ⟨R1.2.2, R2.2.2, k, v, 0, 0⟩) ht1 t2 (by omega) (by omega), ?_⟩⟩
            · simp only [e2, e1, List.append_assoc]
            · simp; omega
          · rw [putM_no _ _ (by omega)]
            refine ⟨new1 ++ new2, by simp only [e2, e1, List.append_assoc], .inr ⟨rfl, by simp only; omega, ?_, rfl⟩⟩
            have : R2.1.length = zs.length + new1.length + new2.length := by rw [e2, e1]; simp; omega
            omega
        · rw [putM_no _ _ f2]
          refine ⟨new1 ++ new2, by simp only [e2, e1, List.append_assoc], .inr ⟨rfl, f2, ?_, rfl⟩⟩
          have : R1.1.length = zs.length + new1.length := by rw [e1]; simp
          omega
      · omega
    · rcases h2 with ⟨c2, _⟩ | ⟨_, _, rfl⟩
      · omega
      · rw [putM_no _ _ f1]
        exact ⟨new1, e1, .inr ⟨rfl, f1, by omega, rfl⟩⟩
  · rcases h2 with ⟨c2, _⟩ | ⟨_, _, rfl⟩
    · simp at c2
    · exact .inr ⟨rfl, f1, putM_no _ _ f1⟩
theorem half_div (n : Nat) : (n : Int) / 2 = ((n / 2 : Nat) : Int) := by omega
end Go.Proofs.Ytpbkclciipmonaa.F
namespace Go.Proofs.Ytpbkclciipmonaa.F
open Go.ChangeShapes Go.WideShapes Go.ChangeAt Go.RowKit Base
theorem ArV.ptr {w : World} {pv : Value} {o : Option Nat} {room : Nat} {zs : List Cel} (h : ArV w pv o room zs) : ∃ a, pv = .pointer a := by
  rcases h with ⟨rfl, _⟩ | ⟨b, rfl, _⟩
  · exact ⟨_, rfl⟩
  · exact ⟨_, rfl⟩
set_option maxRecDepth 100000 in
theorem fld_s (l r k v s h : Int) (w : World) : (Instr.field 86 (.agg #[.int .i64 l, .int .i64 r, .int .i64 k, .int .i64 v, .int .i64 s, .int .i64 h]) 4).run Try.prog w = .ok (.int .i64 s) w := by kernel_rfl
/-- What a call that tells a number, and makes memory, leaves. -/
def IntB (x : Int) (w : World) (e : Ending) (w' : World) : Prop := e = .returned (.int .i64 x) ∧ Below w.heap.size w w'
/-- What done leaves where all went well: the map. -/
def DoneY (pv : Value) (i y : Int) (w : World) (e : Ending) (w' : World) : Prop := e = .returned (.tuple #[.agg #[pv, .int .i64 i], .int .i64 y]) ∧ Below w.heap.size w w'
/-- What done leaves where there was no room: the cells that there were. -/
def DoneN (pv : Value) (o : Option Nat) (room : Nat) (zs : List Cel) (w : World) (e : Ending) (w' : World) : Prop := e = .returned (.tuple #[.agg #[pv, .int .i64 0], .int .i64 2]) ∧ ∃ o', ArV w' pv o' room zs ∧ Mv o o' w ∧ Fr (VF pv o) w w'
end Go.Proofs.Ytpbkclciipmonaa.F
namespace Go.Proofs.Ytpbkclciipmonaa.F
open Go.ChangeShapes Go.WideShapes Go.ChangeAt Go.RowKit Base
/-- A sequence's box. -/
def boxS (pv : Value) (root : Int) : Obj := .cells #[pv, .int .i64 root] 27
/-- What a call that tells a sequence, and makes memory, leaves. -/
def SeqIs (pv : Value) (root : Int) (w : World) (e : Ending) (w' : World) : Prop := e = .returned (.agg #[pv, .int .i64 root]) ∧ Below w.heap.size w w'
set_option maxRecDepth 100000 in
theorem psnew_some (b : Nat) (w : World) : Calls Try.prog 9 #[.pointer (some ⟨b, 0, none⟩)] w (SeqIs (.pointer (some ⟨b, 0, none⟩)) 0 w) := by
  go_enter Try.func9, Try.ntmps9
  go_wp2
  exact bodyPost_ret (v := .agg #[.pointer (some ⟨b, 0, none⟩), .int .i64 0]) (by simp [results, Try.results9, go_sem]) rfl ⟨rfl, by go_grown⟩
set_option maxRecDepth 100000 in
theorem psnew_nil (w : World) : Calls Try.prog 9 #[.pointer none] w (SeqIs (.pointer none) 0 w) := by
  go_enter Try.func9, Try.ntmps9
  go_wp2
  exact bodyPost_ret (v := .agg #[.pointer none, .int .i64 0]) (by simp [results, Try.results9, go_sem]) rfl ⟨rfl, by go_grown⟩
theorem psnew {pv : Value} {o : Option Nat} {room : Nat} {zs : List Cel} {w : World} (h : ArV w pv o room zs) : Calls Try.prog 9 #[pv] w (SeqIs pv 0 w) := by
  rcases h with ⟨rfl, _⟩ | ⟨b, rfl, _⟩
  · exact psnew_nil w
  · exact psnew_some b w
set_option maxRecDepth 100000 in
set_option maxHeartbeats 4000000 in
theorem pscell {pv : Value} {o : Option Nat} {room : Nat} {zs : List Cel} {w : World} (root i : Int) (h : ArV w pv o room zs) : Calls Try.prog 46 #[.agg #[pv, .int .i64 root], .int .i64 i] w (CelIs (celAt zs i) w) := by
  have HG : Hid (∀ wx, Below w.heap.size w wx → Calls Try.prog 74 #[pv, .int .i64 i] wx (GetPost (celAt zs i) (decide (1 ≤ i ∧ i ≤ (zs.length : Int))) wx)) := Lib.hid fun wx hb => arget_v i wx (h.below hb)
  generalize decide (1 ≤ i ∧ i ≤ (zs.length : Int)) = q at HG
  generalize celAt zs i = x at HG ⊢
  unfold GetPost Cel.agg at HG
  have hpv : ∃ a, pv = .pointer a := by
    rcases h with ⟨rfl, _⟩ | ⟨b, rfl, _⟩
    · exact ⟨_, rfl⟩
    · exact ⟨_, rfl⟩
  obtain ⟨a, rfl⟩ := hpv
  clear h
  go_enter Try.func46, Try.ntmps46
  go_wp2_with fail
  refine (HG.out _ (by go_grown)).mono ?_
  rintro e w1 ⟨rfl, hb⟩
  have HB : Hid (Below w.heap.size w w1) := Lib.hid (Below.trans (by go_grown) (hb.mono (by simp; omega)))
  have hz : w1.heap[w.heap.size + 1]? = some (.cells #[.int .i64 0, .int .i64 0, .int .i64 0, .int .i64 0, .int .i64 0, .int .i64 0] 86) := (hb.block _ (by simp)).trans (heap_alloc_at _ _ _ (by simp))
  have HZ : Hid ((w1.alloc (boxC x)).heap[w.heap.size + 1]? = some (boxC Cel.zero)) := Lib.hid (heap_alloc_lt w1 _ _ _ hz)
  have HB2 := Lib.hid (HB.out.alloc HB.out.size (boxC x))
  clear hb hz
  go_wp2_with (refine wpList_store_cel rfl (.tmp 4) (.tmp 14) rfl (w.heap.size + 1) x _ rfl rfl HZ.out ?_; intro w2 hst)
  exact bodyPost_ret (results_cel Try.results46 _ _ (w.heap.size + 1) x rfl hst.2.2.2.2.1) rfl ⟨rfl, hst.below HB2.out (by omega)⟩
set_option maxRecDepth 100000 in
theorem pslen {pv : Value} {o : Option Nat} {room : Nat} {zs : List Cel} {w : World} {t : Tre} {root : Int} (h : ArV w pv o room zs) (ht : Tr zs t root) : Calls Try.prog 13 #[.agg #[pv, .int .i64 root]] w (IntB (t.size : Int) w) := by
  obtain ⟨a, rfl⟩ := h.ptr
  have HB : Hid (Below w.heap.size w (w.alloc (boxS (.pointer a) root))) := Lib.hid ((Below.refl _ _).alloc (Nat.le_refl _) _)
  have HC := Lib.hid (pscell root root (h.below HB.out))
  have he := ht.root.1
  have hf := fld_s
  clear h
  rw [← he]
  go_enter Try.func13, Try.ntmps13
  go_wp2_with fail
  refine HC.out.mono ?_
  rintro e w1 ⟨rfl, hb⟩
  clear he
  go_wp2_with fail
  go_ret
  exact ⟨rfl, HB.out.trans (hb.mono HB.out.size)⟩
set_option maxRecDepth 100000 in
theorem pshigh {pv : Value} {o : Option Nat} {room : Nat} {zs : List Cel} {w : World} {t : Tre} {root : Int} (h : ArV w pv o room zs) (ht : Tr zs t root) : Calls Try.prog 18 #[.agg #[pv, .int .i64 root]] w (IntB (t.high : Int) w) := by
  obtain ⟨a, rfl⟩ := h.ptr
  have HB : Hid (Below w.heap.size w (w.alloc (boxS (.pointer a) root))) := Lib.hid ((Below.refl _ _).alloc (Nat.le_refl _) _)
  have HC := Lib.hid (pscell root root (h.below HB.out))
  have he := ht.root.2
  have hf := fld_h
  clear h
  rw [← he]
  go_enter Try.func18, Try.ntmps18
  go_wp2_with fail
  refine HC.out.mono ?_
  rintro e w1 ⟨rfl, hb⟩
  clear he
  go_wp2_with fail
  go_ret
  exact ⟨rfl, HB.out.trans (hb.mono HB.out.size)⟩
set_option maxRecDepth 100000 in
theorem psgap (i : Int) (w : World) (hb : -4000000000000000000 ≤ i ∧ i ≤ 4000000000000000000) : Calls Try.prog 50 #[.int .i64 i] w fun e w' => e = .returned (.int .i64 (2 * i)) ∧ w = w' := by
  obtain ⟨h1, h2⟩ := hb
  go_enter Try.func50, Try.ntmps50
  go_wp2
  go_ret
  exact ⟨rfl, rfl⟩
set_option maxRecDepth 100000 in
theorem psplace (i : Int) (w : World) (hb : -4000000000000000000 ≤ i ∧ i ≤ 4000000000000000000) : Calls Try.prog 54 #[.int .i64 i] w fun e w' => e = .returned (.int .i64 (2 * i + 1)) ∧ w = w' := by
  obtain ⟨h1, h2⟩ := hb
  go_enter Try.func54, Try.ntmps54
  go_wp2
  go_ret
  exact ⟨rfl, rfl⟩
end Go.Proofs.Ytpbkclciipmonaa.F
namespace Go.Proofs.Ytpbkclciipmonaa.F
open Go.ChangeShapes Go.WideShapes Go.ChangeAt Go.RowKit Base
/-- An editor's block. -/
def edt (pv : Value) (root had why : Int) : Obj := .cells #[pv, .int .i64 root, .int .i64 had, .int .i64 why] 113
/-- Block B is an editor, over an arena. -/
def EDI (w : World) (B : Nat) (pv : Value) (o : Option Nat) (root had : Int) (room : Nat) (zs : List Cel) (why : Int) : Prop := w.heap[B]? = some (edt pv root had why) ∧ ArV w pv o room zs
theorem EDI.nv {w : World} {B : Nat} {pv : Value} {o : Option Nat} {root had : Int} {room : Nat} {zs : List Cel} {why : Int} (h : EDI w B pv o root had room zs why) : ¬ VF pv o B := fun k => by
  obtain ⟨hB, h⟩ := h
  unfold edt at hB
  rcases h with ⟨rfl, rfl, _, _⟩ | ⟨b, rfl, h⟩
  · rcases k with k | k <;> cases k
  · obtain ⟨_, _, _, _, v, hb, hown, rfl⟩ := h
    rcases k with k | k
    · injection k with k; injection k with k; injection k with k
      subst k
      rw [hb] at hB
      simp only [Option.some.injEq, Obj.cells.injEq] at hB
      exact absurd hB.2.1 (by decide)
    · rcases hown.2 with ⟨rfl, _⟩ | ⟨g, cap, cur, rfl, _, hg, _⟩
      · cases k
      · simp only [Value.ownBlock, Option.some.injEq] at k
        subst k
        rw [hg] at hB
        simp only [Option.some.injEq, Obj.cells.injEq] at hB
        exact absurd hB.2.1 (by decide)
theorem EDI.below {w w' : World} {B : Nat} {pv : Value} {o : Option Nat} {root had : Int} {room : Nat} {zs : List Cel} {why : Int} (h : EDI w B pv o root had room zs why) (hb : Below w.heap.size w w') : EDI w' B pv o root had room zs why :=
  ⟨(hb.block _ (heap_lt h.1)).trans h.1, h.2.below hb⟩
/-- What an editor's call leaves: a value, more cells, an error or none; all but the editor and its arena is as it was. -/
def EDP (B : Nat) (pv : Value) (o : Option Nat) (root had : Int) (room : Nat) (zs' : List Cel) (why' : Int) (v : Value) (w : World) (e : Ending) (w' : World) : Prop :=
  e = .returned v ∧ ∃ o', EDI w' B pv o' root had room zs' why' ∧ Mv o o' w ∧ Fr (BF B pv o) w w'
theorem ecells {w : World} {B : Nat} {pv : Value} {root had why : Int} (h : w.heap[B]? = some (edt pv root had why)) : B < w.heap.size ∧ (w.cell? ⟨B, 0, none⟩ = some pv ∧ w.cell? ⟨B, 1, none⟩ = some (.int .i64 root)) ∧ (w.cell? ⟨B, 2, none⟩ = some (.int .i64 had) ∧ w.cell? ⟨B, 3, none⟩ = some (.int .i64 why)) ∧ w.frozen? ⟨B, 3, none⟩ = false := by
  refine ⟨heap_lt h, ?_⟩
  unfold edt at h
  simp [World.cell?, World.frozen?, h]
theorem EDI.setwhy {w : World} {B : Nat} {pv : Value} {o : Option Nat} {root had : Int} {room : Nat} {zs : List Cel} {why : Int} (h : EDI w B pv o root had room zs why) (y : Int) : EDI (w.setCell ⟨B, 3, none⟩ (.int .i64 y)) B pv o root had room zs y ∧ Fr (fun g => g = B) w (w.setCell ⟨B, 3, none⟩ (.int .i64 y)) := by
  have hf : Fr (fun g => g = B) w (w.setCell ⟨B, 3, none⟩ (.int .i64 y)) := Fr.setCell (F := fun g => g = B) (Fr.refl _ _) (b := B) rfl 3 _
  have hn := h.nv
  refine ⟨⟨?_, h.2.fr hf (fun g hv e => hn (e ▸ hv))⟩, hf⟩
  have := h.1
  unfold edt at this ⊢
  simp [World.setCell, Array.getElem?_modify, this]
/-- An editor, on the way from w0 on; some boxes of the call's own. -/
def EDS (B : Nat) (pv : Value) (root had : Int) (room : Nat) (w0 : World) (o0 : Option Nat) (w : World) (o : Option Nat) (zs : List Cel) (why : Int) (bs : List (Nat × Obj)) : Prop :=
  EDI w B pv o root had room zs why ∧ Mv o0 o w0 ∧ Fr (BF B pv o0) w0 w ∧ (∀ p ∈ bs, w.heap[p.1]? = some p.2 ∧ ¬ BF B pv o p.1 ∧ w0.heap.size ≤ p.1) ∧ bs.Pairwise (fun p q => p.1 ≠ q.1)
section
variable {B : Nat} {pv : Value} {root had : Int} {room : Nat} {w0 w w' : World} {o0 o : Option Nat} {zs : List Cel} {why : Int} {bs : List (Nat × Obj)}
theorem EDI.bf (h : EDI w B pv o root had room zs why) {g : Nat} (k : BF B pv o g) : g < w.heap.size := by
  rcases k with rfl | k
  · exact heap_lt h.1
  · exact h.2.lt _ k
theorem EDS.start (h : EDI w B pv o root had room zs why) : EDS B pv root had room w o w o zs why [] := ⟨h, Mv.refl _ _, Fr.refl _ _, fun _ hp => (List.not_mem_nil hp).elim, List.Pairwise.nil⟩
theorem EDS.bi (h : EDS B pv root had room w0 o0 w o zs why bs) : EDI w B pv o root had room zs why := h.1
theorem EDS.below (h : EDS B pv root had room w0 o0 w o zs why bs) (hb : Below w.heap.size w w') : EDS B pv root had room w0 o0 w' o zs why bs :=
  ⟨h.1.below hb, h.2.1, h.2.2.1.trans (Fr.of_below (F := fun _ => False) hb) (fun _ _ e => e.elim), fun p hp => ⟨(hb.block _ (heap_lt (h.2.2.2.1 p hp).1)).trans (h.2.2.2.1 p hp).1, (h.2.2.2.1 p hp).2⟩, h.2.2.2.2⟩
theorem EDS.drew (h : EDS B pv root had room w0 o0 w o zs why bs) : EDS B pv root had room w0 o0 w.drew o zs why bs := h.below (Below.refl _ _).drew
theorem EDS.alloc (h : EDS B pv root had room w0 o0 w o zs why bs) (ob : Obj) : EDS B pv root had room w0 o0 (w.alloc ob) o zs why ((w.heap.size, ob) :: bs) := by
  have h2 := h.below ((Below.refl _ _).alloc (Nat.le_refl _) ob)
  refine ⟨h2.1, h2.2.1, h2.2.2.1, fun p hp => ?_, List.Pairwise.cons (fun p hp e => ?_) h2.2.2.2.2⟩
  · rcases List.mem_cons.1 hp with rfl | hp
    · exact ⟨heap_alloc_at _ _ _ rfl, fun k => Nat.lt_irrefl _ (h.1.bf k), h.2.2.1.size⟩
    · exact h2.2.2.2.1 p hp
  · have := heap_lt (h.2.2.2.1 p hp).1
    simp only at e
    omega
theorem EDS.store {g : Nat} {ob ob' : Obj} (h : EDS B pv root had room w0 o0 w o zs why ((g, ob) :: bs)) (hs : Stored w g ob' w') : EDS B pv root had room w0 o0 w' o zs why ((g, ob') :: bs) := by
  obtain ⟨h1, h2, h3, h4, h5⟩ := h
  have hg := h4 (g, ob) (List.mem_cons_self ..)
  obtain ⟨hp1, hp2⟩ := List.pairwise_cons.1 h5
  have hf : Fr (fun k => k = g) w w' := ⟨hs.1, hs.2.1, hs.2.2.1, by rw [hs.2.2.2.1]; exact Nat.le_refl _, fun k _ hn => hs.2.2.2.2.2 k hn⟩
  refine ⟨⟨(hs.2.2.2.2.2 B (fun e => hg.2.1 (.inl e.symm))).trans h1.1, h1.2.fr hf (fun k hv e => hg.2.1 (.inr (e ▸ hv)))⟩, h2, h3.trans hf (fun k hk e => by have := hg.2.2; simp only at this; omega), fun p hp => ?_, List.pairwise_cons.2 ⟨hp1, hp2⟩⟩
  rcases List.mem_cons.1 hp with rfl | hp
  · exact ⟨hs.2.2.2.2.1, hg.2⟩
  · have := h4 p (List.mem_cons_of_mem _ hp)
    exact ⟨(hs.2.2.2.2.2 p.1 (fun e => hp1 p hp e.symm)).trans this.1, this.2⟩
theorem EDS.swap {p q : Nat × Obj} (h : EDS B pv root had room w0 o0 w o zs why (p :: q :: bs)) : EDS B pv root had room w0 o0 w o zs why (q :: p :: bs) := by
  obtain ⟨h1, h2, h3, h4, h5⟩ := h
  obtain ⟨hp1, hp2⟩ := List.pairwise_cons.1 h5
  obtain ⟨hq1, hq2⟩ := List.pairwise_cons.1 hp2
  refine ⟨h1, h2, h3, fun r hr => h4 r ?_, List.pairwise_cons.2 ⟨fun r hr => ?_, List.pairwise_cons.2 ⟨fun r hr => hp1 r (List.mem_cons_of_mem _ hr), hq2⟩⟩⟩
  · rcases List.mem_cons.1 hr with rfl | hr
    · simp
    · rcases List.mem_cons.1 hr with rfl | hr
      · simp
      · simp [hr]
  · rcases List.mem_cons.1 hr with rfl | hr
    · exact fun e => hp1 q (List.mem_cons_self ..) e.symm
    · exact hq1 r hr
theorem EDS.rot {p q r : Nat × Obj} (h : EDS B pv root had room w0 o0 w o zs why (p :: q :: r :: bs)) : EDS B pv root had room w0 o0 w o zs why (r :: p :: q :: bs) := by
  obtain ⟨h1, h2, h3, h4, h5⟩ := h
  refine ⟨h1, h2, h3, fun x hx => h4 x (by simp only [List.mem_cons] at hx ⊢; rcases hx with e | e | e | e <;> simp [e]), ?_⟩
  simp only [List.pairwise_cons, List.mem_cons] at h5 ⊢
  obtain ⟨a, b, c, d⟩ := h5
  refine ⟨fun x hx => ?_, fun x hx => ?_, fun x hx => b x (.inr hx), d⟩
  · rcases hx with rfl | rfl | hx
    · exact fun e => a _ (.inr (.inl rfl)) e.symm
    · exact fun e => b _ (.inl rfl) e.symm
    · exact c x hx
  · rcases hx with rfl | hx
    · exact a _ (.inl rfl)
    · exact a _ (.inr (.inr hx))
theorem EDS.at_ (h : EDS B pv root had room w0 o0 w o zs why bs) {g : Nat} {ob : Obj} (hp : (g, ob) ∈ bs) : w.heap[g]? = some ob := (h.2.2.2.1 (g, ob) hp).1
theorem EDS.call {zs' : List Cel} {why' : Int} {v : Value} {e : Ending} (h : EDS B pv root had room w0 o0 w o zs why bs) (hs : EDP B pv o root had room zs' why' v w e w') : e = .returned v ∧ ∃ o', Hid (EDS B pv root had room w0 o0 w' o' zs' why' bs) := by
  obtain ⟨he, o', h1, h2, h3⟩ := hs
  obtain ⟨k1, k2, k3, k4, k5⟩ := h
  refine ⟨he, o', Lib.hid ⟨h1, k2.trans h2 k3.size, k3.trans h3 (fun g hg k => k2.bf g hg k), fun p hp => ?_, k5⟩⟩
  have := k4 p hp
  exact ⟨(h3.block (heap_lt this.1) this.2.1).trans this.1, fun k => this.2.1 (h2.bf _ (heap_lt this.1) k), this.2.2⟩
theorem EDS.done (h : EDS B pv root had room w0 o0 w o zs why bs) (v : Value) : EDP B pv o0 root had room zs why v w0 (.returned v) w := ⟨rfl, o, h.1, h.2.1, h.2.2.1⟩
theorem EDS.scells (h : EDS B pv root had room w0 o0 w o zs why bs) : w.cell? ⟨B, 0, none⟩ = some pv ∧ w.cell? ⟨B, 1, none⟩ = some (.int .i64 root) := (ecells h.1.1).2.1
theorem EDS.box (h : EDS B pv root had room w0 o0 w o zs why bs) {g : Nat} {c : Cel} (hp : (g, boxC c) ∈ bs) : w.cell? ⟨g, 0, none⟩ = some (.int .i64 c.l) ∧ w.cell? ⟨g, 1, none⟩ = some (.int .i64 c.r) ∧ w.cell? ⟨g, 2, none⟩ = some (.int .i64 c.k) ∧ w.cell? ⟨g, 3, none⟩ = some (.int .i64 c.v) ∧ w.cell? ⟨g, 4, none⟩ = some (.int .i64 c.s) ∧ w.cell? ⟨g, 5, none⟩ = some (.int .i64 c.h) := (cellsC (h.at_ hp)).2
theorem EDS.fro (h : EDS B pv root had room w0 o0 w o zs why bs) {g : Nat} {c : Cel} (hp : (g, boxC c) ∈ bs) : w.frozen? ⟨g, 0, none⟩ = false ∧ w.frozen? ⟨g, 1, none⟩ = false ∧ w.frozen? ⟨g, 2, none⟩ = false ∧ w.frozen? ⟨g, 3, none⟩ = false ∧ w.frozen? ⟨g, 4, none⟩ = false ∧ w.frozen? ⟨g, 5, none⟩ = false := frozC (h.at_ hp)
end
end Go.Proofs.Ytpbkclciipmonaa.F
namespace Go.Proofs.Ytpbkclciipmonaa.F
namespace Tre
/-- The numbers, from left to right. -/
def vals : Tre → List Int
  | nil => []
  | node l _ v r => l.vals ++ v :: r.vals
theorem vals_list (t : Tre) : t.vals = t.list.map (·.v) := by
  induction t with
  | nil => rfl
  | node l k v r h1 h2 => simp [vals, list, h1, h2]
theorem vals_len (t : Tre) : t.vals.length = t.size := by rw [vals_list, List.length_map, list_len]
theorem lev_vals (l : Tre) (k v : Int) (r : Tre) : (lev l k v r).vals = l.vals ++ v :: r.vals := by
  rw [vals_list, lev_list]; simp [vals_list]
theorem lev_size (l : Tre) (k v : Int) (r : Tre) : (lev l k v r).size = l.size + 1 + r.size := by
  rw [← vals_len, lev_vals, List.length_append, List.length_cons, vals_len, vals_len]; omega
/-- A tree, changed at a spot: the spots are gap, place, gap, .., gap. -/
def chg (f : Tre → Tre) : Int → Tre → Tre
  | _, nil => f nil
  | s, node l k v r => if s < 2 * (l.size : Int) + 1 then lev (chg f s l) 0 v r else if 2 * (l.size : Int) + 1 < s then lev l 0 v (chg f (s - (2 * (l.size : Int) + 1) - 1) r) else f (node l k v r)
theorem chg_bal {f : Tre → Tre} (hf : ∀ t, t.bal → (f t).bal ∧ t.high ≤ (f t).high + 1 ∧ (f t).high ≤ t.high + 1) (t : Tre) : ∀ s, t.bal → (chg f s t).bal ∧ t.high ≤ (chg f s t).high + 1 ∧ (chg f s t).high ≤ t.high + 1 := by
  induction t with
  | nil => exact fun s h => hf _ h
  | node l k v r h1 h2 =>
    intro s h
    have hb := h
    simp only [bal] at h
    obtain ⟨hl, hr, h3, h4⟩ := h
    simp only [chg]
    split
    · have h1 := h1 s hl
      by_cases e : (chg f s l).high ≤ r.high + 1 ∧ r.high ≤ (chg f s l).high + 1
      · rw [lev_high _ _ e.1 e.2]; simp only [bal, high]; refine ⟨⟨h1.1, hr, ?_, ?_⟩, ?_, ?_⟩ <;> omega
      · have := lev_bal 0 v h1.1 hr (by omega) (by omega); simp only [high]; refine ⟨this.1, ?_, ?_⟩ <;> omega
    · split
      · have h2 := h2 (s - (2 * (l.size : Int) + 1) - 1) hr
        generalize chg f (s - (2 * (l.size : Int) + 1) - 1) r = r' at h2
        by_cases e : l.high ≤ r'.high + 1 ∧ r'.high ≤ l.high + 1
        · rw [lev_high _ _ e.1 e.2]; simp only [bal, high]; refine ⟨⟨hl, h2.1, ?_, ?_⟩, ?_, ?_⟩ <;> omega
        · have := lev_bal 0 v hl h2.1 (by omega) (by omega); simp only [high]; refine ⟨this.1, ?_, ?_⟩ <;> omega
      · exact hf _ hb
/-- A number is put in at a place. -/
def insAt (i : Nat) (x : Int) (t : Tre) : Tre := chg (fun _ => node nil 0 x nil) (2 * (i : Int)) t
theorem insAt_vals (x : Int) (t : Tre) : ∀ i, i ≤ t.size → (insAt i x t).vals = t.vals.take i ++ x :: t.vals.drop i := by
  unfold insAt
  induction t with
  | nil => intro i hi; simp [size] at hi; subst hi; rfl
  | node l k v r h1 h2 =>
    intro i hi
    simp only [size] at hi
    simp only [chg, vals]
    split
    · have hl : i ≤ l.size := by omega
      rw [lev_vals, h1 i hl, List.take_append_of_le_length (by rw [vals_len]; exact hl), List.drop_append_of_le_length (by rw [vals_len]; exact hl)]
      simp
    · rw [if_pos (by omega)]
      obtain ⟨m, rfl⟩ : ∃ m, i = l.size + 1 + m := ⟨i - l.size - 1, by omega⟩
      rw [show 2 * ((l.size + 1 + m : Nat) : Int) - (2 * (l.size : Int) + 1) - 1 = 2 * (m : Int) by omega, lev_vals, h2 m (by omega)]
      rw [List.take_append, List.drop_append, vals_len, List.take_of_length_le (l := l.vals) (i := l.size + 1 + m) (by rw [vals_len]; omega), show l.vals.drop (l.size + 1 + m) = [] from List.drop_eq_nil_of_le (by rw [vals_len]; omega), show l.size + 1 + m - l.size = m + 1 by omega]
      simp
/-- A number is another one. -/
def setF (x : Int) : Tre → Tre
  | nil => nil
  | node l _ _ r => node l 0 x r
def setAt (i : Nat) (x : Int) (t : Tre) : Tre := chg (setF x) (2 * (i : Int) + 1) t
theorem setAt_vals (x : Int) (t : Tre) : ∀ i, i < t.size → (setAt i x t).vals = t.vals.set i x := by
  unfold setAt
  induction t with
  | nil => intro i hi; simp [size] at hi
  | node l k v r h1 h2 =>
    intro i hi
    simp only [size] at hi
    simp only [chg, vals]
    split
    · have hl : i < l.size := by omega
      rw [lev_vals, h1 i hl, List.set_append_left _ _ (by rw [vals_len]; exact hl)]
    · split
      · obtain ⟨m, rfl⟩ : ∃ m, i = l.size + 1 + m := ⟨i - l.size - 1, by omega⟩
        rw [show 2 * ((l.size + 1 + m : Nat) : Int) + 1 - (2 * (l.size : Int) + 1) - 1 = 2 * (m : Int) + 1 by omega, lev_vals, h2 m (by omega), List.set_append_right _ _ (by rw [vals_len]; omega), vals_len, show l.size + 1 + m - l.size = m + 1 by omega]
        rfl
      · obtain rfl : i = l.size := by omega
        rw [List.set_append_right _ _ (by rw [vals_len]; omega), vals_len, Nat.sub_self]
        rfl
/-- What two trees below one cell hold, without the cell. -/
def join : Tre → Tre → Tre
  | nil, r => r
  | node a b c d, nil => node a b c d
  | node a b c d, node e f g h => lev (node a b c d) 0 (pop (node e f g h)).1.v (pop (node e f g h)).2
theorem join_vals (l r : Tre) : (join l r).vals = l.vals ++ r.vals := by
  cases l with
  | nil => simp [join, vals]
  | node a b c d =>
    cases r with
    | nil => simp [join, vals]
    | node e f g h =>
      rw [join, lev_vals]
      congr 1
      have := pop_list (t := node e f g h) (by simp)
      rw [vals_list, vals_list (node e f g h), this]
      rfl
def delF : Tre → Tre
  | nil => nil
  | node l _ _ r => join l r
def delAt (i : Nat) (t : Tre) : Tre := chg delF (2 * (i : Int) + 1) t
theorem delAt_vals (t : Tre) : ∀ i, i < t.size → (delAt i t).vals = t.vals.eraseIdx i := by
  unfold delAt
  induction t with
  | nil => intro i hi; simp [size] at hi
  | node l k v r h1 h2 =>
    intro i hi
    simp only [size] at hi
    simp only [chg, vals]
    split
    · have hl : i < l.size := by omega
      rw [lev_vals, h1 i hl, List.eraseIdx_append_of_lt_length (by rw [vals_len]; exact hl)]
    · split
      · obtain ⟨m, rfl⟩ : ∃ m, i = l.size + 1 + m := ⟨i - l.size - 1, by omega⟩
        rw [show 2 * ((l.size + 1 + m : Nat) : Int) + 1 - (2 * (l.size : Int) + 1) - 1 = 2 * (m : Int) + 1 by omega, lev_vals, h2 m (by omega), List.eraseIdx_append_of_length_le (by rw [vals_len]; omega), vals_len, show l.size + 1 + m - l.size = m + 1 by omega]
        rfl
      · obtain rfl : i = l.size := by omega
        rw [List.eraseIdx_append_of_length_le (by rw [vals_len]; omega), vals_len, Nat.sub_self]
        simp [delF, join_vals]
theorem setF_bal (x : Int) (t : Tre) (h : t.bal) : (setF x t).bal ∧ t.high ≤ (setF x t).high + 1 ∧ (setF x t).high ≤ t.high + 1 := by
  cases t with
  | nil => simp [setF, bal, high]
  | node l k v r => simp only [setF, bal, high] at *; exact ⟨h, by omega, by omega⟩
theorem join_bal {l r : Tre} (hl : l.bal) (hr : r.bal) (h3 : l.high ≤ r.high + 1) (h4 : r.high ≤ l.high + 1) : (join l r).bal ∧ max l.high r.high ≤ (join l r).high ∧ (join l r).high ≤ 1 + max l.high r.high := by
  cases l with
  | nil => simp only [join, high] at *; refine ⟨hr, ?_, ?_⟩ <;> omega
  | node a b c d =>
    cases r with
    | nil => simp only [join, high] at *; refine ⟨hl, ?_, ?_⟩ <;> omega
    | node e f g h =>
      have h5 := pop_bal hr (by simp)
      rw [join]
      generalize (pop (node e f g h)).1.v = y
      generalize (pop (node e f g h)).2 = r' at h5 ⊢
      by_cases e2 : (node a b c d).high ≤ r'.high + 1
      · rw [lev_high _ _ (by omega) (by omega)]; simp only [bal]; refine ⟨⟨hl, h5.1, by omega, by omega⟩, ?_, ?_⟩ <;> (rw [show (node (node a b c d) 0 y r').high = 1 + max (node a b c d).high r'.high from rfl]; omega)
      · have := lev_bal 0 y hl h5.1 (by omega) (by omega); refine ⟨this.1, ?_, ?_⟩ <;> omega
theorem delF_bal (t : Tre) (h : t.bal) : (delF t).bal ∧ t.high ≤ (delF t).high + 1 ∧ (delF t).high ≤ t.high + 1 := by
  cases t with
  | nil => simp [delF, bal, high]
  | node l k v r =>
    simp only [bal] at h
    have := join_bal h.1 h.2.1 h.2.2.1 h.2.2.2
    rw [show (node l k v r).high = 1 + max l.high r.high from rfl]
    simp only [delF]
    refine ⟨this.1, ?_, ?_⟩ <;> omega
theorem insAt_bal' (x : Int) (t : Tre) : ∀ z : Int, t.bal → (chg (fun _ => node nil 0 x nil) (2 * z) t).bal ∧ t.high ≤ (chg (fun _ => node nil 0 x nil) (2 * z) t).high + 1 ∧ (chg (fun _ => node nil 0 x nil) (2 * z) t).high ≤ t.high + 1 := by
  induction t with
  | nil => intro z _; simp [chg, bal, high]
  | node l k v r h1 h2 =>
    intro z h
    simp only [bal] at h
    obtain ⟨hl, hr, h3, h4⟩ := h
    simp only [chg]
    split
    · have h1 := h1 z hl
      generalize chg (fun _ => node nil 0 x nil) (2 * z) l = l' at h1
      by_cases e : l'.high ≤ r.high + 1 ∧ r.high ≤ l'.high + 1
      · rw [lev_high _ _ e.1 e.2]; simp only [bal, high]; refine ⟨⟨h1.1, hr, ?_, ?_⟩, ?_, ?_⟩ <;> omega
      · have := lev_bal 0 v h1.1 hr (by omega) (by omega); simp only [high]; refine ⟨this.1, ?_, ?_⟩ <;> omega
    · rw [if_pos (by omega), show 2 * z - (2 * (l.size : Int) + 1) - 1 = 2 * (z - (l.size : Int) - 1) by omega]
      have h2 := h2 (z - (l.size : Int) - 1) hr
      generalize chg (fun _ => node nil 0 x nil) (2 * (z - (l.size : Int) - 1)) r = r' at h2
      by_cases e : l.high ≤ r'.high + 1 ∧ r'.high ≤ l.high + 1
      · rw [lev_high _ _ e.1 e.2]; simp only [bal, high]; refine ⟨⟨hl, h2.1, ?_, ?_⟩, ?_, ?_⟩ <;> omega
      · have := lev_bal 0 v hl h2.1 (by omega) (by omega); simp only [high]; refine ⟨this.1, ?_, ?_⟩ <;> omega
theorem insAt_bal (i : Nat) (x : Int) {t : Tre} (h : t.bal) : (insAt i x t).bal ∧ t.high ≤ (insAt i x t).high + 1 ∧ (insAt i x t).high ≤ t.high + 1 := insAt_bal' x t _ h
theorem setAt_bal (i : Nat) (x : Int) {t : Tre} (h : t.bal) : (setAt i x t).bal ∧ t.high ≤ (setAt i x t).high + 1 ∧ (setAt i x t).high ≤ t.high + 1 := chg_bal (setF_bal x) t _ h
theorem delAt_bal (i : Nat) {t : Tre} (h : t.bal) : (delAt i t).bal ∧ t.high ≤ (delAt i t).high + 1 ∧ (delAt i t).high ≤ t.high + 1 := chg_bal delF_bal t _ h
end Tre
end Go.Proofs.Ytpbkclciipmonaa.F
namespace Go.Proofs.Ytpbkclciipmonaa.F
open Go.ChangeShapes Go.WideShapes Go.ChangeAt Go.RowKit Base
theorem i64_mask (a m k : Nat) (ha : a < 4611686018427387904) (hk : k ≤ 17) (hm : m = 2 ^ k) : bits .and .i64 (a : Int) ((m : Int) - 1) = ((a % m : Nat) : Int) := by
  have hp : 2 ^ k ≤ 2 ^ 17 := Nat.pow_le_pow_right (by omega) hk
  have hq : 0 < m := by rw [hm]; exact Nat.two_pow_pos k
  rw [← hm] at hp
  have h1 : (BitVec.ofInt 64 ((m : Int) - 1)).toNat = 2 ^ k - 1 := by
    rw [BitVec.toNat_ofInt, ← hm]; omega
  have h2 : (BitVec.ofInt 64 (a : Int)).toNat = a := by rw [BitVec.toNat_ofInt]; omega
  show IntKind.i64.wrap ((BitVec.ofInt 64 (a : Int) &&& BitVec.ofInt 64 ((m : Int) - 1)).toNat : Nat) = _
  rw [BitVec.toNat_and, h1, h2, Nat.and_two_pow_sub_one_eq_mod, IntKind.wrap_i64, ← hm]
  have h3 := Nat.mod_lt a hq
  generalize a % m = r at h3 ⊢
  omega
/-- The cells of a ring of N places hold xs, from place f on. -/
def Ring (cur : Array Value) (N f : Nat) (xs : List Int) : Prop := cur.size = N ∧ ∀ i, i < xs.length → cur[(f + i) % N]? = some (.int .i64 (xs.getD i 0))
theorem Ring.nil {cur : Array Value} {N : Nat} (h : cur.size = N) (f : Nat) : Ring cur N f [] := ⟨h, fun i hi => absurd hi (by simp)⟩
theorem Ring.push {cur : Array Value} {N f : Nat} {xs : List Int} (h : Ring cur N f xs) (hl : xs.length < N) (x : Int) : Ring (cur.setIfInBounds ((f + xs.length) % N) (.int .i64 x)) N f (xs ++ [x]) := by
  refine ⟨by rw [Array.size_setIfInBounds]; exact h.1, fun i hi => ?_⟩
  rw [List.length_append, List.length_singleton] at hi
  have hN : 0 < N := by omega
  rw [Array.getElem?_setIfInBounds]
  by_cases he : i = xs.length
  · subst he
    rw [if_pos rfl, if_pos (by rw [h.1]; exact Nat.mod_lt _ hN)]
    simp [List.getD_eq_getElem?_getD]
  · have hne : (f + xs.length) % N ≠ (f + i) % N := fun e => by
      have h1 := Nat.sub_mod_eq_zero_of_mod_eq e
      rw [show f + xs.length - (f + i) = xs.length - i by omega, Nat.mod_eq_of_lt (by omega)] at h1
      omega
    rw [if_neg hne, h.2 i (by omega), List.getD_eq_getElem?_getD, List.getD_eq_getElem?_getD, List.getElem?_append_left (by omega)]
theorem Ring.pop {cur : Array Value} {N f : Nat} {x : Int} {xs : List Int} (h : Ring cur N f (x :: xs)) : Ring cur N ((f + 1) % N) xs := by
  refine ⟨h.1, fun i hi => ?_⟩
  have := h.2 (i + 1) (by simp; omega)
  rw [Nat.mod_add_mod, show f + 1 + i = f + (i + 1) by omega, this]
  simp
theorem Ring.first {cur : Array Value} {N f : Nat} {x : Int} {xs : List Int} (h : Ring cur N f (x :: xs)) (hf : f < N) : cur[f]? = some (.int .i64 x) := by
  have := h.2 0 (by simp)
  rw [Nat.add_zero, Nat.mod_eq_of_lt hf] at this
  simpa using this
theorem Ring.lt {N f i : Nat} (hN : 0 < N) : (f + i) % N < N := Nat.mod_lt _ hN
/-- A cell of a block is stored into. -/
theorem heap_setCell_at {w : World} {b j : Nat} {cs : Array Value} {T : TypeId} {v : Value} (h : w.heap[b]? = some (.cells cs T)) : (w.setCell ⟨b, j, none⟩ v).heap[b]? = some (.cells (cs.setIfInBounds j v) T) := by
  simp [World.setCell, Array.getElem?_modify, h]
end Go.Proofs.Ytpbkclciipmonaa.F
namespace Go.Proofs
open Go.Shelf
def Try.lays128_ren : Go.Shelf.Ren := ⟨fun | 128 => 83 | n => n, fun | 51 => 121 | 3 => 3 | 4 => 4 | 46 => 49 | 5 => 5 | 9 => 9 | n => n, fun | n => n⟩
theorem Try.lays128 : Go.Proofs.Lays.n128 Try.prog Try.lays128_ren := {
  mixed := by kernel_rfl
  f128 := Try.func83.trans (congrArg some (by kernel_rfl))
  t3 := Try.underlying3
  a3 := Try.isAgg3
  z3 := Try.sizeOf3
  v3 := Try.zeroValue3
  t4 := Try.underlying4
  a4 := Try.isAgg4
  z4 := Try.sizeOf4
  v4 := Try.zeroValue4
  t5 := Try.underlying5
  a5 := Try.isAgg5
  z5 := Try.sizeOf5
  v5 := Try.zeroValue5
  t9 := Try.underlying9
  a9 := Try.isAgg9
  z9 := Try.sizeOf9
  v9 := Try.zeroValue9
  t46 := Try.underlying49
  a46 := Try.isAgg49
  z46 := Try.sizeOf49
  v46 := Try.zeroValue49
  t51 := Try.underlying121
  a51 := Try.isAgg121
  z51 := Try.sizeOf121
  v51 := Try.zeroValue121 }
theorem Try.bits_Len32 (x : Int) (w : World) (h0 : 0 ≤ x) (h1 : x ≤ 4294967295) :
    Calls Try.prog 83 #[.int .u32 x] w fun e w' => e = .returned (.int .i64 (Lib.bitLen x.toNat)) ∧ w' = w := Any.bits_Len32 Try.lays128 x w h0 h1
def Try.lays125_ren : Go.Shelf.Ren := ⟨fun | 125 => 65 | 128 => 83 | 129 => 84 | n => n, fun | 46 => 49 | 3 => 3 | 51 => 121 | 53 => 123 | 4 => 4 | 5 => 5 | 9 => 9 | n => n, fun | n => n⟩
theorem Try.lays125 : Go.Proofs.Lays.n125 Try.prog Try.lays125_ren := {
  mixed := by kernel_rfl
  f125 := Try.func65.trans (congrArg some (by kernel_rfl))
  f128 := Try.func83.trans (congrArg some (by kernel_rfl))
  f129 := Try.func84.trans (congrArg some (by kernel_rfl))
  t3 := Try.underlying3
  a3 := Try.isAgg3
  z3 := Try.sizeOf3
  v3 := Try.zeroValue3
  t4 := Try.underlying4
  a4 := Try.isAgg4
  z4 := Try.sizeOf4
  v4 := Try.zeroValue4
  t5 := Try.underlying5
  a5 := Try.isAgg5
  z5 := Try.sizeOf5
  v5 := Try.zeroValue5
  t9 := Try.underlying9
  a9 := Try.isAgg9
  z9 := Try.sizeOf9
  v9 := Try.zeroValue9
  t46 := Try.underlying49
  a46 := Try.isAgg49
  z46 := Try.sizeOf49
  v46 := Try.zeroValue49
  t51 := Try.underlying121
  a51 := Try.isAgg121
  z51 := Try.sizeOf121
  v51 := Try.zeroValue121
  t53 := Try.underlying123
  a53 := Try.isAgg123
  z53 := Try.sizeOf123
  v53 := Try.zeroValue123 }
theorem Try.bits_Len (x : Int) (w : World) (h0 : 0 ≤ x) (h1 : x ≤ 18446744073709551615) :
    Calls Try.prog 65 #[.int .u64 x] w fun e w' => e = .returned (.int .i64 (Lib.bitLen x.toNat)) ∧ w' = w := Any.bits_Len Try.lays125 x w h0 h1
def Try.lays129_ren : Go.Shelf.Ren := ⟨fun | 129 => 84 | n => n, fun | 53 => 123 | 3 => 3 | 4 => 4 | 46 => 49 | 5 => 5 | 9 => 9 | n => n, fun | n => n⟩
theorem Try.lays129 : Go.Proofs.Lays.n129 Try.prog Try.lays129_ren := {
  mixed := by kernel_rfl
  f129 := Try.func84.trans (congrArg some (by kernel_rfl))
  t3 := Try.underlying3
  a3 := Try.isAgg3
  z3 := Try.sizeOf3
  v3 := Try.zeroValue3
  t4 := Try.underlying4
  a4 := Try.isAgg4
  z4 := Try.sizeOf4
  v4 := Try.zeroValue4
  t5 := Try.underlying5
  a5 := Try.isAgg5
  z5 := Try.sizeOf5
  v5 := Try.zeroValue5
  t9 := Try.underlying9
  a9 := Try.isAgg9
  z9 := Try.sizeOf9
  v9 := Try.zeroValue9
  t46 := Try.underlying49
  a46 := Try.isAgg49
  z46 := Try.sizeOf49
  v46 := Try.zeroValue49
  t53 := Try.underlying123
  a53 := Try.isAgg123
  z53 := Try.sizeOf123
  v53 := Try.zeroValue123 }
theorem Try.bits_Len64 (x : Int) (w : World) (h0 : 0 ≤ x) (h1 : x ≤ 18446744073709551615) :
    Calls Try.prog 84 #[.int .u64 x] w fun e w' => e = .returned (.int .i64 (Lib.bitLen x.toNat)) ∧ w' = w := Any.bits_Len64 Try.lays129 x w h0 h1
def Try.lays112_ren : Go.Shelf.Ren := ⟨fun | 112 => 87 | n => n, fun | 28 => 29 | 3 => 3 | 4 => 4 | 0 => 0 | n => n, fun | n => n⟩
theorem Try.lays112 : Go.Proofs.Lays.n112 Try.prog Try.lays112_ren := {
  mixed := by kernel_rfl
  f112 := Try.func87.trans (congrArg some (by kernel_rfl))
  t0 := Try.underlying0
  a0 := Try.isAgg0
  z0 := Try.sizeOf0
  v0 := Try.zeroValue0
  t3 := Try.underlying3
  a3 := Try.isAgg3
  z3 := Try.sizeOf3
  v3 := Try.zeroValue3
  t4 := Try.underlying4
  a4 := Try.isAgg4
  z4 := Try.sizeOf4
  v4 := Try.zeroValue4
  t28 := Try.underlying29
  a28 := Try.isAgg29
  z28 := Try.sizeOf29
  v28 := Try.zeroValue29 }
open Go.RowKit Go.Lib Go.Sort in
theorem Try.slices_Reverse_int_arr (blk off cap : Nat) (d : Array Int) (w : World) (hH : Holds encI w blk off d) (hsz : d.size ≤ 9223372036854775807) :
    Calls Try.prog 87 #[.slice (some ⟨blk, off, none⟩) d.size cap] w fun e w' => e = .returned (.tuple #[]) ∧ ∃ n, w' = putRow encI (Sort.ahead w n) blk off d.reverse := Any.slices_Reverse_int_arr Try.lays112 blk off cap d w hH hsz
open Go.RowKit Go.Lib Go.Sort in
theorem Try.slices_Reverse_int (blk off cap : Nat) (zs : List Int) (w : World) (hH : Holds (Value.int .i64) w blk off zs.toArray) (hsz : zs.length ≤ 9223372036854775807) :
    Calls Try.prog 87 #[.slice (some ⟨blk, off, none⟩) zs.length cap] w fun e w' => e = .returned (.tuple #[]) ∧ ∃ n, w' = putRow (Value.int .i64) (Sort.ahead w n) blk off zs.reverse.toArray := Any.slices_Reverse_int Try.lays112 blk off cap zs w hH hsz
open Go.RowKit Go.Lib Go.Sort in
theorem Try.slices_Reverse_int_empty (a : Option Addr) (cap : Nat) (w : World) :
    Calls Try.prog 87 #[.slice a 0 cap] w fun e w' => e = .returned (.tuple #[]) ∧ w' = w := Any.slices_Reverse_int_empty Try.lays112 a cap w
def Try.laysNm215_ren : Go.Shelf.Ren := ⟨fun | 15 => 86 | n => n, fun | 22 => 29 | 3 => 3 | 4 => 4 | n => n, fun | n => n⟩
theorem Try.laysNm215 : Go.Proofs.Lays2.n15 Try.prog Try.laysNm215_ren := {
  mixed := by kernel_rfl
  f15 := Try.func86.trans (congrArg some (by kernel_rfl))
  t3 := Try.underlying3
  a3 := Try.isAgg3
  z3 := Try.sizeOf3
  v3 := Try.zeroValue3
  t4 := Try.underlying4
  a4 := Try.isAgg4
  z4 := Try.sizeOf4
  v4 := Try.zeroValue4
  t22 := Try.underlying29
  a22 := Try.isAgg29
  z22 := Try.sizeOf29
  v22 := Try.zeroValue29
  i3 := by kernel_rfl }
open Go.RowKit Go.Lib in
theorem Try.slices_Clone_int (b off n c : Nat) (zs : List Int) (w : World) (hz : n ≤ zs.length) (hbig : n * 8 ≤ 140737488355328) (hc : ∀ j, j < zs.length → w.cell? ⟨b, off + j, none⟩ = some (.int .i64 (zs.getD j 0))) :
    Calls Try.prog 86 #[.slice (some ⟨b, off, none⟩) n c] w fun e w' => ∃ v', e = .returned v' ∧ w'.ownsRow w.heap.size 3 1 v' n ((zs.take n).map (Value.int .i64)) ∧ v' ≠ .slice none 0 0 ∧ Below w.heap.size w w' := Any.slices_Clone_int Try.laysNm215 b off n c zs w hz hbig hc
open Go.RowKit Go.Lib in
theorem Try.slices_Clone_int_nil (n c : Nat) (w : World) :
    Calls Try.prog 86 #[.slice none n c] w fun e w' => e = .returned (.slice none 0 0) ∧ w' = w := Any.slices_Clone_int_nil Try.laysNm215 n c w
open Go.RowKit Go.Lib in
theorem Try.slices_Clone_int_zero (a : Addr) (c : Nat) (w : World) :
    Calls Try.prog 86 #[.slice (some a) 0 c] w fun e w' => ∃ v', e = .returned v' ∧ w'.ownsRow w.heap.size 3 1 v' 0 [] ∧ v' ≠ .slice none 0 0 ∧ Below w.heap.size w w' := Any.slices_Clone_int_zero Try.laysNm215 a c w
open Go.RowKit Go.Lib Go.Sort in
theorem Try.slices_Reverse_int_cells (b off n c : Nat) (zs : List Int) (w : World) (hz : n ≤ zs.length) (hbig : n ≤ 9223372036854775807) (hc : ∀ j, j < zs.length → w.cell? ⟨b, off + j, none⟩ = some (.int .i64 (zs.getD j 0))) (hf : ∀ j, j < n → w.frozen? ⟨b, off + j, none⟩ = false) :
    Calls Try.prog 87 #[.slice (some ⟨b, off, none⟩) n c] w fun e w' => e = .returned (.tuple #[]) ∧ ∃ q, w' = (w.drewN q).setCells b off ((zs.take n).reverse.map (Value.int .i64)) := Any.slices_Reverse_int_cells Try.lays112 b off n c zs w hz hbig hc hf
end Go.Proofs
namespace Go.Proofs.Ytpbkclciipmonaa.Lst
open Go.ChangeShapes Go.WideShapes Go.ChangeAt Go.RowKit Base
/-- v is nil and xs is empty, or v's elements, which lie from block base on, are xs. -/
def Ints (base : Nat) (w : World) (v : Value) (xs : List Int) : Prop :=
  ((∃ p c, v = .slice p 0 c) ∧ xs = []) ∨ ∃ g o c, v = .slice (some ⟨g, o, none⟩) xs.length c ∧ base ≤ g ∧ g < w.heap.size ∧ xs.length ≤ 9223372036854775807 ∧ ∀ k, k < xs.length → w.cell? ⟨g, o + k, none⟩ = some (.int .i64 (xs.getD k 0))
theorem Ints.below {base : Nat} {w w1 : World} {v : Value} {xs : List Int} (h : Ints base w v xs) (hb : Below w.heap.size w w1) : Ints base w1 v xs := by
  rcases h with h | ⟨g, o, c, hv, h1, h2, h3, h4⟩
  · exact .inl h
  · exact .inr ⟨g, o, c, hv, h1, Nat.lt_of_lt_of_le h2 hb.size, h3, fun k hk => (hb.cell (p := ⟨g, o + k, none⟩) h2).trans (h4 k hk)⟩
theorem Ints.grown {base : Nat} {w w1 : World} {v : Value} {xs : List Int} {x : Nat} (h : Ints base w v xs) (hg : w.grownBy w1 (some x)) (hx : x < base) : Ints base w1 v xs := by
  rcases h with h | ⟨g, o, c, hv, h1, h2, h3, h4⟩
  · exact .inl h
  · refine .inr ⟨g, o, c, hv, h1, Nat.lt_of_lt_of_le h2 hg.size, h3, fun k hk => ?_⟩
    rw [World.cell?_of_block (w := w) (a := ⟨g, o + k, none⟩) (hg.block g h2 (fun e => by have := Option.some.inj e; omega))]
    exact h4 k hk
theorem Ints.mono {base base' : Nat} {w : World} {v : Value} {xs : List Int} (h : Ints base w v xs) (hb : base' ≤ base) : Ints base' w v xs := by
  rcases h with h | ⟨g, o, c, hv, h1, h2⟩
  · exact .inl h
  · exact .inr ⟨g, o, c, hv, Nat.le_trans hb h1, h2⟩
theorem Ints.open_ {base : Nat} {w : World} {v : Value} {xs : List Int} (h : Ints base w v xs) : ∃ p c, v = .slice p xs.length c ∧ xs.length ≤ 9223372036854775807 ∧ ∀ k, k < xs.length → ∃ g o, p = some ⟨g, o, none⟩ ∧ base ≤ g ∧ g < w.heap.size ∧ w.cell? ⟨g, o + k, none⟩ = some (.int .i64 (xs.getD k 0)) := by
  rcases h with ⟨⟨p, c, rfl⟩, rfl⟩ | ⟨g, o, c, hv, h1, h2, h3, h4⟩
  · exact ⟨p, c, rfl, by simp, fun k hk => by simp at hk⟩
  · exact ⟨_, c, hv, h3, fun k hk => ⟨g, o, rfl, h1, h2, h4 k hk⟩⟩
theorem Ints.nil {base : Nat} {w : World} : Ints base w (.slice none 0 0) [] := .inl ⟨⟨_, _, rfl⟩, rfl⟩
/-- A list that is typed out. -/
theorem lit_ints (zs : List Int) (w : World) (t : TypeId) (vs : Array Value) (hv : vs = (zs.map (Value.int .i64)).toArray) (hl : zs.length ≤ 65536) (m : Nat) (hm : m = zs.length) : Ints w.heap.size (w.alloc (.cells vs t)) (.slice (some ⟨w.heap.size, 0, none⟩) m m) zs := by
  subst hv hm
  refine .inr ⟨w.heap.size, 0, _, rfl, Nat.le_refl _, by simp, by omega, fun k hk => ?_⟩
  simp only [World.cell?, heap_alloc_at _ _ _ rfl, Nat.zero_add]
  simp [List.getD_eq_getElem?_getD, hk]
theorem int_info : (Try.prog.info? 3).map (fun i => (i.zero, i.size, i.bytes)) = some (some (.int .i64 0), 1, 8) := by kernel_rfl
theorem own_base {w : World} {base : Nat} {e : TypeId} {size n : Nat} {v : Value} {xs : List Value} (h : w.ownsRow base e size v n xs) : ∀ k, v.ownBlock = some k → base ≤ k := fun k hk => (h.lt k hk).1
/-- The slice v, which the call made itself from block B on, holds zs. -/
def OwnI (B : Nat) (w : World) (v : Value) (zs : List Int) : Prop := w.ownsRow B 3 1 v zs.length (zs.map (Value.int .i64))
theorem OwnI.nil (B : Nat) (w : World) : OwnI B w (.slice none 0 0) [] := World.ownsRow_nil _ _ _ _
theorem OwnI.ints {B : Nat} {w : World} {v : Value} {zs : List Int} (h : OwnI B w v zs) (hl : zs.length ≤ 9223372036854775807) : Ints 0 w v zs := by
  obtain ⟨_, h⟩ := h
  rcases h with ⟨hv, h0⟩ | ⟨g, cap, cur, hv, h1, h2, h3, h4, h5, h6⟩
  · exact .inl ⟨⟨_, _, hv⟩, List.length_eq_zero_iff.1 h0⟩
  · refine .inr ⟨g, 0, cap, hv, Nat.zero_le _, heap_lt h2, hl, fun k hk => ?_⟩
    have hc : cur[k]? = some (.int .i64 (zs.getD k 0)) := by
      have : (cur.toList.take (zs.length * 1))[k]? = (zs.map (Value.int .i64))[k]? := by rw [h6]
      rw [List.getElem?_take, if_pos (by omega)] at this
      rw [← Array.getElem?_toList, this, List.getElem?_map, List.getElem?_eq_getElem hk, List.getD_eq_getElem?_getD, List.getElem?_eq_getElem hk]
      rfl
    simp [World.cell?, h2, hc]
/-- A number is put behind a slice of the call's own. -/
theorem append_int {ops : Array Oper} {rest : List Oper} {o : Oper} {a : Act} {Q : Exit → Act → World → Prop} (hgd : o.guard = none) (s x : Operand)
    (ho : o.op = .call { callee := .builtin .append, args := #[s, x], argTypes := #[29, 29] }) {w0 w : World} {v : Value} {zs : List Int} {z : Int}
    (hb : Below w0.heap.size w0 w) (hown : OwnI w0.heap.size w v zs) (hs : a.eval s = v) (hx : a.eval x = .slice (some ⟨w.heap.size, 0, none⟩) 1 1) (hl : zs.length ≤ 1000000)
    (h : ∀ v' w', OwnI w0.heap.size w' v' (zs ++ [z]) → Below w0.heap.size w0 w' → wpList Try.prog ops Q rest (a.put o.dst v') w') : wpList Try.prog ops Q (o :: rest) a (w.alloc (.cells #[.int .i64 z] 3)) := by
  obtain ⟨i0, hi, hz0, hz1, hz2⟩ := info_parts int_info
  have hz := hb.size
  refine wpList_append_own _ hgd s x 29 ho w0.heap.size 3 i0 (.int .i64 0) 1 8 Try.underlying29 hi hz0 hz1 hz2 rfl (by decide) v zs.length (zs.map (Value.int .i64)) hs (hown.alloc _) ⟨w.heap.size, 0, none⟩ 1 1 [.int .i64 z] hx rfl ?_ ?_ (by simp only [maxLen]; omega) (by omega) (by simp; omega) ?_
  · intro t u hu
    match t, hu with
    | 0, hu => simp at hu; subst hu; simp [Addr.add]
  · intro u hu; simp at hu; subst hu; rfl
  · intro v' w' hown' hg _
    refine h v' w' ?_ ((hb.alloc hz _).grown hg (by simp; omega) (own_base hown))
    unfold OwnI
    rw [List.length_append, List.map_append]
    exact hown'
/-- What a call that tells a new list leaves. -/
def ListNew (xs : List Int) (w : World) (e : Ending) (w' : World) : Prop := (∃ v, e = .returned v ∧ Ints 0 w' v xs) ∧ Below w.heap.size w w'
theorem cellsInt : Try.prog.cellsOf 3 = 1 := by kernel_rfl
section
variable {H : Type} {enc : TypeId × Value → H} {w : World}
set_option maxRecDepth 100000 in
theorem open_list {r : Reach} {b0 : Nat} {v : Value} {d : DataW H} {p : List MemPlace} (hv : Value.okWide Try.prog w r b0 29 v) (h : DataW.Trod enc Try.prog w 0 (fun _ => true) true 29 v d p) : ∃ zs, (∃ p c, v = .slice p zs.length c ∧ zs.length ≤ c) ∧ Ints 0 w v zs ∧ ∀ x ∈ zs, -9223372036854775808 ≤ x ∧ x ≤ 9223372036854775807 := by
  obtain ⟨a0, len, cap, rfl⟩ := okWide_slice Try.underlying29 hv
  obtain ⟨fuel, hf⟩ := h
  rcases open_ints Try.underlying29 Try.underlying3 cellsInt hf with ⟨hcs, _⟩ | ⟨a, len', cap', zs, hcs, _, hl, hm, hz, _, hcell, hwf⟩
  · simp [Value.cells] at hcs
    obtain ⟨rfl, rfl, rfl⟩ := hcs
    exact ⟨[], ⟨_, _, rfl, by simp⟩, .inl ⟨⟨_, _, rfl⟩, rfl⟩, fun x hx => by cases hx⟩
  · simp [Value.cells] at hcs
    obtain ⟨rfl, rfl, rfl⟩ := hcs
    simp only [if_true] at hz
    by_cases h0 : len = 0
    · subst h0
      exact ⟨[], ⟨_, _, rfl, by simp⟩, .inl ⟨⟨_, _, rfl⟩, rfl⟩, fun x hx => by cases hx⟩
    · obtain ⟨b, off, spot⟩ := a
      have hspot : spot = none := by simpa [Addr.add] using World.cell?_spot (hcell 0 (by omega))
      subst hspot
      have cj : ∀ j, j < zs.length → w.cell? ⟨b, off + j, none⟩ = some (.int .i64 (zs.getD j 0)) := fun j hj => by rw [← add_plain]; exact hcell j hj
      have hlt : b < w.heap.size := by
        rcases Nat.lt_or_ge b w.heap.size with h1 | h1
        · exact h1
        · have := cj 0 (by omega)
          simp [World.cell?, Array.getElem?_eq_none h1] at this
      have hlen : (zs.take len).length = len := by rw [List.length_take]; omega
      refine ⟨zs.take len, ⟨_, _, by rw [hlen], by rw [hlen]; omega⟩, .inr ⟨b, off, cap, by rw [hlen], Nat.zero_le _, hlt, by rw [hlen]; simp only [maxLen] at hm; omega, fun k hk => ?_⟩, fun x hx => bounds_i64 (hwf x (List.mem_of_mem_take hx))⟩
      rw [hlen] at hk
      rw [cj k (by omega)]
      simp [List.getD_eq_getElem?_getD, hk]
end
/-- A part of a list that lies in memory lies there. -/
theorem Ints.part {base : Nat} {W : World} {p : Option Addr} {n c : Nat} {xs : List Int} (h : Ints base W (.slice p n c) xs) (lo hi : Nat) (h1 : lo ≤ hi) (h2 : hi ≤ n) (h3 : n ≤ c) : Ints base W (sliced p lo hi c 1) ((xs.drop lo).take (hi - lo)) := by
  by_cases he : lo = hi
  · refine .inl ⟨?_, by subst he; simp⟩
    unfold sliced
    subst he
    cases p
    · exact ⟨_, _, by simp; exact ⟨rfl, rfl⟩⟩
    · exact ⟨_, _, by simp; exact ⟨rfl, rfl⟩⟩
  · rcases h with ⟨⟨p', c', hv⟩, rfl⟩ | ⟨g, o, c', hv, a1, a2, a3, a4⟩
    · have : n = 0 := by injection hv
      omega
    · injection hv with e1 e2 e3
      subst e1 e2 e3
      have hl : ((xs.drop lo).take (hi - lo)).length = hi - lo := by rw [List.length_take, List.length_drop]; omega
      refine .inr ⟨g, o + lo, c - lo, ?_, a1, a2, by omega, fun k hk => ?_⟩
      · rw [hl]
        unfold sliced
        have h9 : ¬ c = lo := by omega
        by_cases h0 : lo = 0
        · subst h0; simp [h9, Addr.add]
        · simp [h9, h0, Addr.add]
      · rw [hl] at hk
        rw [Nat.add_assoc, a4 (lo + k) (by omega)]
        have e : ((xs.drop lo).take (hi - lo)).getD k 0 = xs.getD (lo + k) 0 := by
          rw [List.getD_eq_getElem?_getD, List.getD_eq_getElem?_getD, List.getElem?_take, if_pos hk, List.getElem?_drop]
        rw [e]
theorem sizeInt (w : World) : (sizeOf 3).run Try.prog w = .ok 1 w := by kernel_rfl
theorem elemInts : Try.prog.underlying 29 = some (.slice (Try.prog.elem 29)) := by kernel_rfl
theorem elemInts' : Try.prog.elem 29 = 3 := by kernel_rfl
theorem Ints.slice_lh {base : Nat} {W : World} {p : Option Addr} {n c : Nat} {xs : List Int} (h : Ints base W (.slice p n c) xs) (lo hi : Nat) (h1 : lo ≤ hi) (h2 : hi ≤ n) (h3 : n ≤ c) :
    ∃ v, (∀ w, (Instr.sliceAt 29 (.slice p n c) (some (.int .i64 (lo : Int))) (some (.int .i64 (hi : Int))) none).run Try.prog w = .ok v w) ∧ Ints base W v ((xs.drop lo).take (hi - lo)) :=
  ⟨_, fun w => by rw [run_sliceAt_slice _ _ _ _ _ _ elemInts, run_slice_lh w _ _ _ _ elemInts _ _ _ _ (by omega) (by omega) (by omega), elemInts', sizeInt]; rfl, by simpa using h.part lo hi h1 h2 h3⟩
theorem Ints.slice_h {base : Nat} {W : World} {p : Option Addr} {n c : Nat} {xs : List Int} (h : Ints base W (.slice p n c) xs) (hi : Nat) (h2 : hi ≤ n) (h3 : n ≤ c) :
    ∃ v, (∀ w, (Instr.sliceAt 29 (.slice p n c) none (some (.int .i64 (hi : Int))) none).run Try.prog w = .ok v w) ∧ Ints base W v (xs.take hi) :=
  ⟨_, fun w => by rw [run_sliceAt_slice _ _ _ _ _ _ elemInts, run_slice_h w _ _ _ _ elemInts _ _ (by omega) (by omega), elemInts', sizeInt]; rfl, by simpa using h.part 0 hi (Nat.zero_le _) h2 h3⟩
theorem Ints.slice_l {base : Nat} {W : World} {p : Option Addr} {n c : Nat} {xs : List Int} (h : Ints base W (.slice p n c) xs) (hn : xs.length = n) (lo : Nat) (h2 : lo ≤ n) (h3 : n ≤ c) :
    ∃ v, (∀ w, (Instr.sliceAt 29 (.slice p n c) (some (.int .i64 (lo : Int))) none none).run Try.prog w = .ok v w) ∧ Ints base W v (xs.drop lo) :=
  ⟨_, fun w => by rw [run_sliceAt_slice _ _ _ _ _ _ elemInts, run_slice_l w _ _ _ _ elemInts _ _ (by omega) (by omega), elemInts', sizeInt]; rfl, by
    have := h.part lo n h2 (Nat.le_refl _) h3
    rw [List.take_of_length_le (by rw [List.length_drop]; omega)] at this
    simpa using this⟩
end Go.Proofs.Ytpbkclciipmonaa.Lst
namespace Go.Proofs.Ytpbkclciipmonaa.F
open Go.ChangeShapes Go.WideShapes Go.ChangeAt Go.RowKit Base
/-- A queue's block. -/
def boxQ (g N f n room : Nat) : Obj := .cells #[.slice (some ⟨g, 0, none⟩) N N, .int .i64 (f : Int), .int .i64 (n : Int), .int .i64 (room : Int)] 103
/-- Block b is a queue of that room with xs, whose ring is block g. -/
def QAt (w : World) (b g room : Nat) (xs : List Int) : Prop :=
  room ≤ 65536 ∧ xs.length ≤ room ∧ b ≠ g ∧ ∃ k N f cur, k ≤ 16 ∧ N = 2 ^ k ∧ room ≤ N ∧ f < N ∧ w.heap[b]? = some (boxQ g N f xs.length room) ∧ w.heap[g]? = some (.cells cur 3) ∧ Ring cur N f xs
theorem QAt.fr {w w' : World} {F : Nat → Prop} {b g room : Nat} {xs : List Int} (h : QAt w b g room xs) (hf : Fr F w w') (hb : ¬ F b) (hg : ¬ F g) : QAt w' b g room xs := by
  obtain ⟨h1, h2, h3, k, N, f, cur, h4, h5, h6, h7, h8, h9, h10⟩ := h
  exact ⟨h1, h2, h3, k, N, f, cur, h4, h5, h6, h7, (hf.block (heap_lt h8) hb).trans h8, (hf.block (heap_lt h9) hg).trans h9, h10⟩
theorem QAt.below {w w' : World} {b g room : Nat} {xs : List Int} (h : QAt w b g room xs) (hb : Below w.heap.size w w') : QAt w' b g room xs :=
  h.fr (Fr.of_below (F := fun _ => False) hb) (fun e => e) (fun e => e)
theorem QAt.lt {w : World} {b g room : Nat} {xs : List Int} (h : QAt w b g room xs) : b < w.heap.size ∧ g < w.heap.size := by
  obtain ⟨_, _, _, k, N, f, cur, _, _, _, _, h8, h9, _⟩ := h
  exact ⟨heap_lt h8, heap_lt h9⟩
theorem cellsQ {w : World} {b g N f n room : Nat} (h : w.heap[b]? = some (boxQ g N f n room)) : b < w.heap.size ∧ w.cell? ⟨b, 0, none⟩ = some (.slice (some ⟨g, 0, none⟩) N N) ∧ w.cell? ⟨b, 1, none⟩ = some (.int .i64 (f : Int)) ∧ w.cell? ⟨b, 2, none⟩ = some (.int .i64 (n : Int)) ∧ w.cell? ⟨b, 3, none⟩ = some (.int .i64 (room : Int)) := by
  refine ⟨heap_lt h, ?_⟩
  unfold boxQ at h
  simp [World.cell?, h]
theorem frozQ {w : World} {b g N f n room : Nat} (h : w.heap[b]? = some (boxQ g N f n room)) : w.frozen? ⟨b, 1, none⟩ = false ∧ w.frozen? ⟨b, 2, none⟩ = false := by
  unfold boxQ at h
  simp [World.frozen?, h]
theorem fbounded (n : Int) (w : World) : Calls Try.prog 64 #[.int .i64 n] w fun e w' => e = .returned (.int .i64 ((roomOf n : Nat) : Int)) ∧ w = w' := by
  rw [roomOf_eq]
  go_enter Try.func64, Try.ntmps64
  go_wp2
  go_ret
  exact ⟨rfl, rfl⟩
theorem fqlen {w : World} {b g room : Nat} {xs : List Int} (h : QAt w b g room xs) : Calls Try.prog 71 #[.pointer (some ⟨b, 0, none⟩)] w fun e w' => e = .returned (.int .i64 (xs.length : Int)) ∧ w = w' := by
  obtain ⟨_, _, _, k, N, f, cur, _, _, _, _, h8, _⟩ := h
  obtain ⟨hb, c0, c1, c2, c3⟩ := cellsQ h8
  clear h8
  go_enter Try.func71, Try.ntmps71
  go_wp2
  go_ret
  exact ⟨rfl, rfl⟩
theorem fqlen_nil (w : World) : Calls Try.prog 71 #[.pointer none] w fun e w' => e = .returned (.int .i64 0) ∧ w = w' := by
  go_enter Try.func71, Try.ntmps71
  go_wp2
  go_ret
  exact ⟨rfl, rfl⟩
theorem fqroom {w : World} {b g room : Nat} {xs : List Int} (h : QAt w b g room xs) : Calls Try.prog 66 #[.pointer (some ⟨b, 0, none⟩)] w (IntDrew ((room : Int) - (xs.length : Int)) w) := by
  obtain ⟨hr, hl, _, k, N, f, cur, _, _, _, _, h8, _⟩ := h
  obtain ⟨hb, c0, c1, c2, c3⟩ := cellsQ h8
  have e1 : IntKind.i64.wrap ((room : Int) - (xs.length : Int)) = (room : Int) - (xs.length : Int) := by rw [IntKind.wrap_i64]; omega
  clear h8
  go_enter Try.func66, Try.ntmps66
  go_wp2
  go_quiet (fail)
  go_wp2
  go_ret
  exact ⟨rfl, _, rfl⟩
theorem fqroom_nil (w : World) : Calls Try.prog 66 #[.pointer none] w (IntDrew 0 w) := by
  go_enter Try.func66, Try.ntmps66
  go_wp2
  go_ret
  exact ⟨rfl, 0, rfl⟩
theorem fqplace {w : World} {b g N f n room k : Nat} (h : w.heap[b]? = some (boxQ g N f n room)) (hk : k ≤ 16) (hN : N = 2 ^ k) (hf : f < N) (i : Nat) (hi : i ≤ 65536) : Calls Try.prog 67 #[.pointer (some ⟨b, 0, none⟩), .int .i64 (i : Int)] w fun e w' => e = .returned (.int .i64 (((f + i) % N : Nat) : Int)) ∧ w = w' := by
  obtain ⟨hb, c0, c1, c2, c3⟩ := cellsQ h
  have hp : 2 ^ k ≤ 2 ^ 16 := Nat.pow_le_pow_right (by omega) hk
  rw [← hN] at hp
  have e1 : bits .and .i64 ((f : Int) + (i : Int)) ((N : Int) - 1) = (((f + i) % N : Nat) : Int) := by
    rw [← i64_mask (f + i) N k (by omega) (by omega) hN, Int.natCast_add]
  clear h hN
  generalize ((f + i) % N : Nat) = r at e1 ⊢
  go_enter Try.func67, Try.ntmps67
  go_wp2
  go_ret
  exact ⟨rfl, rfl⟩
/-- What First and Pop tell. -/
def fstV (xs : List Int) : Value := .tuple #[.int .i64 (xs.headD 0), .bool (!xs.isEmpty)]
end Go.Proofs.Ytpbkclciipmonaa.F
namespace Go.Proofs.Ytpbkclciipmonaa.F
open Go.ChangeShapes Go.WideShapes Go.ChangeAt Go.RowKit Base
/-- How long a ring is made. -/
theorem ring_len (r : Nat) (hr : r ≤ 65536) : r ≤ 2 ^ Lib.bitLen (max r 1 - 1) ∧ Lib.bitLen (max r 1 - 1) ≤ 16 := by
  unfold Lib.bitLen
  by_cases h0 : max r 1 - 1 = 0
  · rw [h0, Lib.bitLenAux_zero]; omega
  · obtain ⟨h1, h2, h3⟩ := Lib.bitLenAux_bounds 64 (max r 1 - 1) (by omega) h0
    refine ⟨by omega, ?_⟩
    have h4 : 2 ^ (Lib.bitLenAux 64 (max r 1 - 1) - 1) < 2 ^ 16 := by omega
    have := (Nat.pow_lt_pow_iff_right (by decide : 1 < 2)).1 h4
    omega
/-- What New leaves. -/
def NewQ (n : Int) (w : World) (e : Ending) (w' : World) : Prop := ∃ b g, e = .returned (.pointer (some ⟨b, 0, none⟩)) ∧ QAt w' b g (roomOf n) [] ∧ w.heap.size ≤ b ∧ w.heap.size ≤ g ∧ Below w.heap.size w w'
set_option maxHeartbeats 1000000 in
set_option maxRecDepth 100000 in
theorem fqnew (n : Int) (w : World) : Calls Try.prog 28 #[.int .i64 n] w (NewQ n w) := by
  have hr := roomOf_le n
  obtain ⟨hl1, hl2⟩ := ring_len (roomOf n) hr
  have HB := Lib.hid (fbounded n w)
  have KEY : ∀ k, roomOf n ≤ 2 ^ k → k ≤ 16 → NewQ n w (.returned (.pointer (some ⟨w.heap.size + 1, 0, none⟩))) ((w.alloc (.cells (madeCells #[.int .i64 0] (2 ^ k)) 3)).alloc (.cells #[.slice (some ⟨w.heap.size, 0, none⟩) (2 ^ k) (2 ^ k), .int .i64 0, .int .i64 0, .int .i64 ((roomOf n : Nat) : Int)] 103)) := fun k h1 h2 => by
    refine ⟨w.heap.size + 1, w.heap.size, rfl, ⟨hr, Nat.zero_le _, by omega, k, 2 ^ k, 0, _, h2, rfl, h1, Nat.two_pow_pos k, heap_alloc_at _ _ _ (by simp), heap_alloc_lt _ _ _ _ (heap_alloc_at _ _ _ rfl), Ring.nil (by simp [madeCells]) 0⟩, by omega, Nat.le_refl _, ((Below.refl _ _).alloc (Nat.le_refl _) _).alloc (by simp) _⟩
  have KEY2 := Lib.hid (KEY _ hl1 hl2)
  clear KEY
  obtain ⟨r, hr0⟩ : ∃ r, r = roomOf n := ⟨_, rfl⟩
  have hmk : ∀ wx k, k ≤ 16 → (Instr.makeSlice 29 (.int .i64 ((2 ^ k : Nat) : Int)) (.int .i64 ((2 ^ k : Nat) : Int))).run Try.prog wx = .ok (.slice (some ⟨wx.heap.size, 0, none⟩) (2 ^ k) (2 ^ k)) (wx.alloc (.cells (madeCells #[.int .i64 0] (2 ^ k)) 3)) := fun wx k hk => by
    have hp : 2 ^ k ≤ 2 ^ 16 := Nat.pow_le_pow_right (by omega) hk
    exact run_make_row' (P := Try.prog) 29 3 (.int .i64 0) 8 Try.underlying29 Lst.int_info rfl .i64 .i64 (2 ^ k) (by omega) (by omega) wx
  generalize NewQ n w = Post at KEY2 ⊢
  rw [← hr0] at HB hl2 KEY2 hr
  clear hl1
  have HLN : ∀ wx, Calls Try.prog 65 #[.int .u64 ((max r 1 - 1 : Nat) : Int)] wx fun e w' => e = .returned (.int .i64 (Lib.bitLen (max r 1 - 1))) ∧ w' = wx := fun wx => by
    have := Try.bits_Len ((max r 1 - 1 : Nat) : Int) wx (by omega) (by omega)
    rwa [Int.toNat_natCast] at this
  have HL := Lib.hid HLN
  have hm := hmk
  generalize Lib.bitLen (max r 1 - 1) = k at HL KEY2 hl2
  have hw1 : max (r : Int) 1 - 1 = ((max r 1 - 1 : Nat) : Int) := by omega
  have hp : 2 ^ k ≤ 2 ^ 16 := Nat.pow_le_pow_right (by omega) hl2
  have hm1 := fun wx => hm wx k hl2
  have hw2 : ((2 : Int) ^ k) = ((2 ^ k : Nat) : Int) := by rw [Int.natCast_pow]; rfl
  clear HLN hmk hr0 hm
  generalize hN : (2 ^ k : Nat) = N at KEY2 hm1 hw2 hp
  have hw3 : wrap64 ((2 : Int) ^ k) = (N : Int) := by rw [hw2]; exact IntWalk.wrap64_in _ ⟨by omega, by omega⟩
  clear hN hw2
  go_enter Try.func28, Try.ntmps28
  go_wp2_with fail
  refine HB.out.mono ?_
  rintro e w1 ⟨rfl, rfl⟩
  go_wp2_with fail
  refine (HL.out _).mono ?_
  rintro e w1 ⟨rfl, rfl⟩
  go_wp2
  exact KEY2.out
end Go.Proofs.Ytpbkclciipmonaa.F
namespace Go.Proofs.Ytpbkclciipmonaa.F
open Go.ChangeShapes Go.WideShapes Go.ChangeAt Go.RowKit Base
/-- What becomes of a queue. -/
def QPost (b g room : Nat) (xs : List Int) (v : Value) (w : World) (e : Ending) (w' : World) : Prop := e = .returned v ∧ QAt w' b g room xs ∧ Fr (fun k => k = b ∨ k = g) w w'
theorem fqpush_full {w : World} {b g room : Nat} {xs : List Int} (h : QAt w b g room xs) (hf : xs.length = room) (x : Int) : Calls Try.prog 30 #[.pointer (some ⟨b, 0, none⟩), .int .i64 x] w fun e w' => e = .returned (.int .i64 2) ∧ ∃ n, w' = w.drewN n := by
  have HR := Lib.hid (fqroom h)
  rw [hf, Int.sub_self] at HR
  clear h hf
  go_enter Try.func30, Try.ntmps30
  go_wp2_with fail
  refine HR.out.mono ?_
  rintro e w1 ⟨rfl, n, rfl⟩
  go_wp2
  go_ret
  exact ⟨rfl, n, rfl⟩
theorem fqpush_nil (x : Int) (w : World) : Calls Try.prog 30 #[.pointer none, .int .i64 x] w fun e w' => e = .returned (.int .i64 2) ∧ ∃ n, w' = w.drewN n := by
  go_enter Try.func30, Try.ntmps30
  go_wp2_with fail
  refine (fqroom_nil _).mono ?_
  rintro e w1 ⟨rfl, n, rfl⟩
  go_wp2
  go_ret
  exact ⟨rfl, n, rfl⟩
set_option maxHeartbeats 1000000 in
set_option maxRecDepth 100000 in
theorem fqpush_ok {w : World} {b g room : Nat} {xs : List Int} (h : QAt w b g room xs) (hf : xs.length < room) (x : Int) : Calls Try.prog 30 #[.pointer (some ⟨b, 0, none⟩), .int .i64 x] w (QPost b g room (xs ++ [x]) (.int .i64 0) w) := by
  have HR := Lib.hid (fqroom h)
  obtain ⟨hr, hl, hbg, k, N, f, cur, hk, hN, hrN, hfN, h8, h9, h10⟩ := h
  have hp : 2 ^ k ≤ 2 ^ 16 := Nat.pow_le_pow_right (by omega) hk
  have HP : Hid (∀ X, Calls Try.prog 67 #[.pointer (some ⟨b, 0, none⟩), .int .i64 (xs.length : Int)] (w.drewN X) fun e w' => e = .returned (.int .i64 (((f + xs.length) % N : Nat) : Int)) ∧ w.drewN X = w') := Lib.hid fun X => fqplace (w := w.drewN X) (n := xs.length) (room := room) h8 hk hN hfN xs.length (by omega)
  have hpl : (f + xs.length) % N < N := Nat.mod_lt _ (by omega)
  have KEY : Hid (∀ q, QPost b g room (xs ++ [x]) (.int .i64 0) w (.returned (.int .i64 0)) (((w.setCell ⟨g, (f + xs.length) % N, none⟩ (.int .i64 x)).setCell ⟨b, 2, none⟩ (.int .i64 ((xs.length : Int) + 1))).drewN q)) := Lib.hid fun q => by
    have e9 : ((w.setCell ⟨g, (f + xs.length) % N, none⟩ (.int .i64 x)).setCell ⟨b, 2, none⟩ (.int .i64 ((xs.length : Int) + 1))).heap[g]? = some (.cells (cur.setIfInBounds ((f + xs.length) % N) (.int .i64 x)) 3) :=
      (Below.heap_setCell _ _ _ _ (fun e => hbg e.symm)).trans (heap_setCell_at h9)
    have e8 : ((w.setCell ⟨g, (f + xs.length) % N, none⟩ (.int .i64 x)).setCell ⟨b, 2, none⟩ (.int .i64 ((xs.length : Int) + 1))).heap[b]? = some (boxQ g N f (xs ++ [x]).length room) := by
      have h8' : (w.setCell ⟨g, (f + xs.length) % N, none⟩ (.int .i64 x)).heap[b]? = some (boxQ g N f xs.length room) := (Below.heap_setCell _ _ _ _ hbg).trans h8
      rw [boxQ] at h8'
      rw [heap_setCell_at h8', List.length_append, List.length_singleton, boxQ]
      simp
    refine ⟨rfl, ⟨hr, by rw [List.length_append, List.length_singleton]; omega, hbg, k, N, f, _, hk, hN, hrN, hfN, e8, e9, h10.push (by omega) x⟩, ?_⟩
    exact (((Fr.refl _ w).setCell (.inr rfl) _ _).setCell (.inl rfl) _ _).drewN q
  obtain ⟨hb, c0, c1, c2, c3⟩ := cellsQ h8
  obtain ⟨f1, f2⟩ := frozQ h8
  have hgs := heap_lt h9
  have cg : ∃ z, w.cell? ⟨g, (f + xs.length) % N, none⟩ = some z := by
    have hs := h10.1
    refine ⟨cur[(f + xs.length) % N]'(by omega), by simp [World.cell?, h9]⟩
  have fg : w.frozen? ⟨g, (f + xs.length) % N, none⟩ = false := by simp [World.frozen?, h9]
  obtain ⟨z, cg⟩ := cg
  have hne : ((room : Int) - (xs.length : Int) == 0) = false := by rw [beq_eq_false_iff_ne]; omega
  have hl6 : (xs.length : Int) ≤ 65536 := by omega
  generalize QPost b g room (xs ++ [x]) (.int .i64 0) w = Post at KEY ⊢
  generalize (f + xs.length) % N = p at KEY HP hpl cg fg
  generalize xs.length = n at *
  clear h8 h9 h10 hN hf hl
  go_enter Try.func30, Try.ntmps30
  go_wp2_with fail
  refine HR.out.mono ?_
  rintro e w1 ⟨rfl, nq, rfl⟩
  go_wp2_with fail
  go_region_held3 (fun w' => w'.cell? ⟨b, 0, none⟩ = some (.slice (some ⟨g, 0, none⟩) N N) ∧ w'.cell? ⟨b, 2, none⟩ = some (.int .i64 n))
    (first | (simp [*]; done) | (refine ⟨?_, ?_⟩ <;> first | (simp [*]; done) | ((try dsimp only); refine (World.cell?_setCell_other _ _ _ _ (by simp)).trans ?_; simp [*]; done)))
    (first | (go_at_call 67; refine (HP.out _).mono ?_; rintro e wx ⟨rfl, rfl⟩))
  go_wp2
  exact KEY.out _
end Go.Proofs.Ytpbkclciipmonaa.F
namespace Go.Proofs.Ytpbkclciipmonaa.Lst
open Go.ChangeShapes Go.WideShapes Go.ChangeAt Go.RowKit Base
theorem map_at (ys : List Int) (k : Nat) (y : Value) (h : (ys.map (Value.int .i64))[k]? = some y) : k < ys.length ∧ y = .int .i64 (ys.getD k 0) := by
  rw [List.getElem?_map] at h
  obtain ⟨x, hx, rfl⟩ := Option.map_eq_some_iff.1 h
  have hk := (List.getElem?_eq_some_iff.1 hx).1
  refine ⟨hk, ?_⟩
  rw [List.getD_eq_getElem?_getD, hx]
  rfl
theorem run_append_ints {B base : Nat} {w : World} {v u : Value} {zs ys : List Int} (ty : TypeId)
    (hB : B ≤ w.heap.size) (hown : OwnI B w v zs) (hys : Ints base w u ys) (hu : ∀ n c, u = .slice none n c → c = 0) (hl : zs.length + ys.length ≤ 1000000) :
    ∃ v' w', (Builtin.append_ #[29, 29] ty #[v, u]).run Try.prog w = .ok v' w' ∧ OwnI B w' v' (zs ++ ys) ∧ w.grownBy w' v.ownBlock ∧ (v'.ownBlock = v.ownBlock ∨ v'.ownBlock = some w.heap.size) := by
  obtain ⟨i0, hi, hz0, hz1, hz2⟩ := info_parts int_info
  rcases hys with ⟨⟨p, c, rfl⟩, rfl⟩ | ⟨g, o', c, rfl, _, _, _, hc⟩
  · cases p with
    | none =>
      obtain rfl := hu _ _ rfl
      exact ⟨v, w, run_append_owned_none (P := Try.prog) (w := w) B 29 ty 3 i0 1 Try.underlying29 hi v zs.length (zs.map (Value.int .i64)) hown, by rw [List.append_nil]; exact hown, World.grownBy.refl _ _, .inl rfl⟩
    | some ad =>
      obtain ⟨v', w', hr, h2, h3, _, h5⟩ := run_append_own_at (P := Try.prog) w B 29 ty 3 i0 (.int .i64 0) 1 8 Try.underlying29 hi hz0 hz1 hz2 rfl (by decide) v zs.length (zs.map (Value.int .i64)) hown ad 0 c [] (by simp) (by simp) (by simp) (by simp only [maxLen]; omega) (by omega) hB
      refine ⟨v', w', hr, ?_, h3, h5⟩
      rw [List.append_nil]
      unfold OwnI
      simpa using h2
  · obtain ⟨v', w', hr, h2, h3, _, h5⟩ := run_append_own_at (P := Try.prog) w B 29 ty 3 i0 (.int .i64 0) 1 8 Try.underlying29 hi hz0 hz1 hz2 rfl (by decide) v zs.length (zs.map (Value.int .i64)) hown ⟨g, o', none⟩ ys.length c (ys.map (Value.int .i64)) (by simp) (by
      intro t y hy
      obtain ⟨hk, rfl⟩ := map_at ys t y hy
      rw [add_plain]
      exact hc t hk) (by
      intro y hy
      obtain ⟨x, _, rfl⟩ := List.mem_map.1 hy
      rfl) (by simp only [maxLen]; omega) (by omega) hB
    refine ⟨v', w', hr, ?_, h3, h5⟩
    unfold OwnI
    rw [List.length_append, List.map_append]
    exact h2
/-- Some are put behind a slice of the call's own. -/
theorem append_ints {ops : Array Oper} {rest : List Oper} {o : Oper} {a : Act} {Q : Exit → Act → World → Prop} (hgd : o.guard = none) (s x : Operand)
    (ho : o.op = .call { callee := .builtin .append, args := #[s, x], argTypes := #[29, 29] }) {B base : Nat} {w : World} {v u : Value} {zs ys : List Int}
    (hB : B ≤ w.heap.size) (hown : OwnI B w v zs) (hs : a.eval s = v) (hys : Ints base w u ys) (hu : ∀ n c, u = .slice none n c → c = 0) (hx : a.eval x = u) (hl : zs.length + ys.length ≤ 1000000)
    (h : ∀ v' w', OwnI B w' v' (zs ++ ys) → w.grownBy w' v.ownBlock → (v'.ownBlock = v.ownBlock ∨ v'.ownBlock = some w.heap.size) → wpList Try.prog ops Q rest (a.put o.dst v') w') :
    wpList Try.prog ops Q (o :: rest) a w := by
  refine wpList_plain hgd fun K hK => ?_
  obtain ⟨v', w', hr, h2, h3, h5⟩ := run_append_ints o.type hB hown hys hu hl
  unfold Oper.wp execOp
  simp only [ho, resolve, invoke, builtin, Sem.run_bind, Sem.run_pure, Result.andThen_ok, List.map_toArray, List.map_cons, List.map_nil, hs, hx, hr]
  exact hK _ _ (h v' w' h2 h3 h5)
/-- The same, as one step of a region that draws its order. -/
theorem step_append_ints {ops : Array Oper} {o : Oper} {a : Act} {w : World} {K : Act → World → Prop} {Q : Exit → Act → World → Prop} {E : Prop} (hgd : o.guard = none) (s x : Operand)
    (ho : o.op = .call { callee := .builtin .append, args := #[s, x], argTypes := #[29, 29] }) {B base : Nat} {v u : Value} {zs ys : List Int}
    (hB : B ≤ w.heap.size) (hown : OwnI B w v zs) (hs : a.eval s = v) (hys : Ints base w u ys) (hu : ∀ n c, u = .slice none n c → c = 0) (hx : a.eval x = u) (hl : zs.length + ys.length ≤ 1000000)
    (hK : ∀ v' w', OwnI B w' v' (zs ++ ys) → w.grownBy w' v.ownBlock → (v'.ownBlock = v.ownBlock ∨ v'.ownBlock = some w.heap.size) → K (a.put o.dst v') w') :
    if Region.wanted o (yielded ops a.tmps) = true then Oper.wp Try.prog o a w K Q else E := by
  rw [if_pos (by simp [Region.wanted, hgd])]
  obtain ⟨v', w', hr, h2, h3, h5⟩ := run_append_ints o.type hB hown hys hu hl
  unfold Oper.wp
  simp [execOp, ho, resolve, invoke, builtin, hs, hx, hr, Result.andThen]
  exact hK v' w' h2 h3 h5
theorem OwnI.lay {B : Nat} {w X : World} {v : Value} {zs : List Int} (h : OwnI B w v zs) (hx : X.heap = w.heap) (o : Obj) : OwnI B (X.alloc o) v zs := by
  have h1 : OwnI B X v zs := by
    unfold OwnI World.ownsRow at *
    rw [hx]
    exact h
  exact World.ownsRow.alloc h1 o
theorem OwnI.below {B : Nat} {w w' : World} {v : Value} {zs : List Int} (h : OwnI B w v zs) (hb : Below w.heap.size w w') : OwnI B w' v zs := by
  refine ⟨h.1, ?_⟩
  rcases h.2 with hn | ⟨g, cap, cur, rfl, hB, hg, rest⟩
  · exact .inl hn
  · exact .inr ⟨g, cap, cur, rfl, hB, (hb.block g (heap_lt hg)).trans hg, rest⟩
theorem ownI_empty {B : Nat} {W : World} {g : Nat} (hB : B ≤ g) (h : W.heap[g]? = some (.cells #[] 3)) : OwnI B W (.slice (some ⟨g, 0, none⟩) 0 0) [] :=
  ⟨rfl, .inr ⟨g, 0, #[], rfl, hB, h, Nat.le_refl _, by simp [maxLen], rfl, rfl⟩⟩
/-- One that is typed out. -/
theorem ownI_one {B : Nat} {W : World} {g : Nat} (x : Int) (hB : B ≤ g) (h : W.heap[g]? = some (.cells #[.int .i64 x] 3)) : OwnI B W (.slice (some ⟨g, 0, none⟩) 1 1) [x] :=
  ⟨rfl, .inr ⟨g, 1, #[.int .i64 x], rfl, hB, h, Nat.le_refl _, by simp [maxLen], rfl, rfl⟩⟩
theorem int_at {X : World} {g : Nat} (x : Int) (h : X.heap[g]? = some (.cells #[.int .i64 x] 3)) : Ints 0 X (.slice (some ⟨g, 0, none⟩) 1 1) [x] := by
  refine .inr ⟨g, 0, 1, rfl, Nat.zero_le _, heap_lt h, by simp, fun k hk => ?_⟩
  have : k = 0 := by simpa using hk
  subst this
  simp only [World.cell?, h]
  simp
theorem int_lit (x : Int) (X : World) : Ints 0 (X.alloc (.cells #[.int .i64 x] 3)) (.slice (some ⟨X.heap.size, 0, none⟩) 1 1) [x] := int_at x (heap_alloc_at _ _ _ rfl)
/-- How a slice of the call's own looks. -/
theorem OwnI.form {B : Nat} {w : World} {v : Value} {zs : List Int} (h : OwnI B w v zs) : (zs = [] ∧ v = .slice none 0 0) ∨ ∃ g cap, v = .slice (some ⟨g, 0, none⟩) zs.length cap ∧ B ≤ g ∧ g < w.heap.size ∧ zs.length ≤ cap := by
  rcases h.2 with ⟨hv, h0⟩ | ⟨g, cap, cur, hv, hB, hg, hc, _⟩
  · exact .inl ⟨List.length_eq_zero_iff.1 h0, hv⟩
  · exact .inr ⟨g, cap, hv, hB, heap_lt hg, hc⟩
theorem OwnI.cap0 {B : Nat} {w : World} {v : Value} {zs : List Int} (h : OwnI B w v zs) : ∀ n c, v = .slice none n c → c = 0 := fun n c e => by
  rcases h.form with ⟨_, hv⟩ | ⟨g, cap, hv, _⟩
  · rw [hv] at e; injection e with _ _ e; exact e.symm
  · rw [hv] at e; cases e
end Go.Proofs.Ytpbkclciipmonaa.Lst
namespace Go.Proofs.Ytpbkclciipmonaa.F
open Go.ChangeShapes Go.WideShapes Go.ChangeAt Go.RowKit Base
/-- What Pop leaves. -/
def PopQ (b g room : Nat) (xs : List Int) (w : World) (e : Ending) (w' : World) : Prop := QPost b g room xs.tail (fstV xs) w e w'
/-- What a call that makes a list of ints leaves: one of its own. -/
def OwnNew (xs : List Int) (w : World) (e : Ending) (w' : World) : Prop := ∃ v, e = .returned v ∧ Lst.OwnI w.heap.size w' v xs ∧ Below w.heap.size w w'
theorem fqlist_nil (w : World) : Calls Try.prog 33 #[.pointer none] w (OwnNew [] w) := by
  go_enter Try.func33, Try.ntmps33
  go_wp2_with fail
  refine (fqlen_nil _).mono ?_
  rintro e w1 ⟨rfl, rfl⟩
  go_wp2_with fail
  refine wp_loop_rounds 1 ?_
  rw [rounds_succ]
  go_wp2
  go_ret
  exact ⟨_, rfl, Lst.OwnI.nil _ _, Below.refl _ _⟩
set_option maxHeartbeats 1000000 in
set_option maxRecDepth 100000 in
theorem fqlist {w : World} {b g room : Nat} {xs : List Int} (h : QAt w b g room xs) : Calls Try.prog 33 #[.pointer (some ⟨b, 0, none⟩)] w (OwnNew xs w) := by
  have HL := Lib.hid (fqlen h)
  have HH := Lib.hid h
  obtain ⟨hr, hl, hbg, k, N, f, cur, hk, hN, hrN, hfN, h8, h9, h10⟩ := h
  have h8l := heap_lt h8
  have h9l := heap_lt h9
  have HP : Hid (∀ X (i : Nat), i ≤ 65536 → Below w.heap.size w X → Calls Try.prog 67 #[.pointer (some ⟨b, 0, none⟩), .int .i64 (i : Int)] X fun e w' => e = .returned (.int .i64 (((f + i) % N : Nat) : Int)) ∧ X = w') := Lib.hid fun X i hi hX => fqplace (n := xs.length) (room := room) ((hX.block b h8l).trans h8) hk hN hfN i hi
  have HC : Hid (∀ X, Below w.heap.size w X → X.cell? ⟨b, 0, none⟩ = some (.slice (some ⟨g, 0, none⟩) N N) ∧ ∀ i, i < xs.length → X.cell? ⟨g, (f + i) % N, none⟩ = some (.int .i64 (xs.getD i 0))) := Lib.hid fun X hX => by
    refine ⟨(cellsQ ((hX.block b h8l).trans h8)).2.1, fun i hi => ?_⟩
    have := h10.2 i hi
    simp [World.cell?, (hX.block g h9l).trans h9, this]
  have hm : ∀ i, (f + i) % N < N := fun i => Nat.mod_lt _ (by omega)
  clear h8 h9 h10 hN hk
  go_enter Try.func33, Try.ntmps33
  go_wp2_with fail
  refine HL.out.mono ?_
  rintro e w1 ⟨rfl, rfl⟩
  go_wp2_with fail
  go_loopw [3, 7] (fun s3 s7 wr => ∃ i : Nat, s7 = .int .i64 (i : Int) ∧ i ≤ xs.length ∧ Hid (Lst.OwnI w.heap.size wr s3 (xs.take i)) ∧ Hid (Below w.heap.size w wr)) (fun _ s7 _ => xs.length - (intOf s7).toNat)
  case atStart => exact ⟨0, rfl, Nat.zero_le _, Lib.hid (Lst.OwnI.nil _ _), Lib.hid (Below.refl _ _)⟩
  case round =>
    obtain ⟨i, rfl, hi, HO, HB⟩ := hrel
    by_cases hlt : i < xs.length
    · obtain ⟨c0, cc⟩ := HC.out wr HB.out
      have cx := cc i hlt
      have hmi := hm i
      have hx : Hid (xs.take (i + 1) = xs.take i ++ [xs.getD i 0]) := Lib.hid (by
        rw [List.take_add_one, List.getElem?_eq_getElem hlt, List.getD_eq_getElem?_getD, List.getElem?_eq_getElem hlt]; rfl)
      have HP1 : Hid (∀ X, Below w.heap.size w X → Calls Try.prog 67 #[.pointer (some ⟨b, 0, none⟩), .int .i64 (i : Int)] X fun e w' => e = .returned (.int .i64 (((f + i) % N : Nat) : Int)) ∧ X = w') := Lib.hid fun X hX => HP.out X i (by omega) hX
      have HTL : Hid ((xs.take i).length ≤ 65536) := Lib.hid (by rw [List.length_take]; omega)
      clear cc HC HP
      generalize (f + i) % N = p at cx hmi HP1
      generalize xs.getD i 0 = x at cx hx
      have HS : Hid (∀ (X w' : World) (v' : Value), Lst.OwnI w.heap.size w' v' (xs.take i ++ [x]) → (X.alloc (.cells #[.int .i64 x] 3)).grownBy w' u3.ownBlock → Below w.heap.size w X → Hid (Lst.OwnI w.heap.size w' v' (xs.take (i + 1)) ∧ Below w.heap.size w w')) := Lib.hid fun X w' v' ho hg hX => Lib.hid ⟨by rw [hx.out]; exact ho, (hX.alloc hX.size _).grown hg (by have := hX.size; simp; omega) (Lst.own_base HO.out)⟩
      go_wp2_with fail
      go_region_law (first
        | (refine Lst.step_append_ints rfl (.tmp 10) (.tmp 20) rfl (by have := HB.out.size; simp; omega) (Lst.OwnI.lay HO.out rfl _) (by simp [Act.eval]) (Lst.int_lit x _) (fun n c e => by cases e) (by simp [Act.eval]) (by have := HTL.out; simp; omega) ?_; intro v' w' ho hg hat; have HE := HS.out _ _ _ ho hg (below_drewN HB.out 1); clear ho hg hat)
        | (go_simp; go_at_call 67; refine (HP1.out _ (below_drewN HB.out 1)).mono ?_; rintro e wx ⟨rfl, rfl⟩))
      all_goals go_wp2
      all_goals go_roundw
      all_goals first | exact ⟨i + 1, by go_num, by omega, Lib.hid HE.out.1, Lib.hid HE.out.2⟩ | (simp [intOf]; omega)
    · have e : i = xs.length := by omega
      have HE := Lib.hid HO.out
      rw [e, List.take_length] at HE
      clear HO hm
      go_wp2
      go_ret
      exact ⟨_, rfl, HE.out, HB.out⟩
end Go.Proofs.Ytpbkclciipmonaa.F
namespace Go.Proofs.Ytpbkclciipmonaa.Lst
open Go.ChangeShapes Go.WideShapes Go.ChangeAt Go.RowKit Base Go.Sort
theorem OwnI.cut {B : Nat} {w : World} {p : Option Addr} {n c : Nat} {zs : List Int} (h : OwnI B w (.slice p n c) zs) {m : Nat} (hm : m ≤ zs.length) : OwnI B w (.slice p m c) (zs.take m) := by
  have hl : (zs.take m).length = m := by rw [List.length_take]; omega
  rcases h.2 with ⟨hv, h0⟩ | ⟨g, cap, cur, hv, hB, hg, hc, hmx, hsz, htk⟩
  · injection hv with e1 e2 e3
    subst e1 e3
    have : m = 0 := by omega
    subst this
    exact ⟨rfl, .inl ⟨rfl, by simp⟩⟩
  · injection hv with e1 e2 e3
    subst e1 e3
    refine ⟨by simp, .inr ⟨g, c, cur, by rw [hl], hB, hg, by omega, hmx, hsz, ?_⟩⟩
    rw [hl, List.map_take, ← htk, List.take_take, show min m (zs.length * 1) = m * 1 by omega]
theorem heap_putRow {w : World} {q g : Nat} {cur : Array Value} {T : TypeId} (d : Array Int) (h : w.heap[g]? = some (.cells cur T)) : (putRow (Value.int .i64) (Sort.ahead w q) g 0 d).heap[g]? = some (.cells (putCells (Value.int .i64) 0 d cur) T) ∧ (∀ k, k ≠ g → (putRow (Value.int .i64) (Sort.ahead w q) g 0 d).heap[k]? = w.heap[k]?) ∧ (putRow (Value.int .i64) (Sort.ahead w q) g 0 d).heap.size = w.heap.size := by
  unfold putRow mapBlock Sort.ahead
  refine ⟨?_, fun k hk => ?_, ?_⟩
  · simp [Array.getElem?_modify, h, onCells]
  · simp [Array.getElem?_modify, Ne.symm hk]
  · simp
theorem OwnI.reversed {B : Nat} {w : World} {g n cap q : Nat} {zs : List Int} (h : OwnI B w (.slice (some ⟨g, 0, none⟩) n cap) zs) : OwnI B (putRow (Value.int .i64) (Sort.ahead w q) g 0 zs.reverse.toArray) (.slice (some ⟨g, 0, none⟩) n cap) zs.reverse := by
  rcases h.2 with ⟨hv, _⟩ | ⟨g', cap', cur, hv, hB, hg, hc, hmx, hsz, htk⟩
  · cases hv
  · injection hv with e1 e2 e3
    injection e1 with e1
    injection e1 with e1
    subst e1 e2 e3
    refine ⟨by simp, .inr ⟨g, cap, _, by simp, hB, (heap_putRow _ hg).1, by simpa using hc, hmx, by simpa [putCells] using hsz, ?_⟩⟩
    apply List.ext_getElem?
    intro k
    rw [List.getElem?_take]
    split
    · rename_i hk
      have hk' : k < zs.length := by simpa using hk
      have hkc : k < cur.size := by omega
      rw [Array.getElem?_toList, putCells, Array.getElem?_mapIdx, Array.getElem?_eq_getElem hkc, Option.map_some, if_pos ⟨Nat.zero_le _, by simpa using hk'⟩, List.getElem?_map, List.getElem?_eq_getElem (by simpa using hk')]
      simp [hk']
    · rename_i hk
      rw [List.getElem?_eq_none (by simp at hk ⊢; omega)]
theorem OwnI.holds {B : Nat} {w : World} {g n cap : Nat} {zs : List Int} (h : OwnI B w (.slice (some ⟨g, 0, none⟩) n cap) zs) : Holds (Value.int .i64) w g 0 zs.toArray := by
  rcases h.2 with ⟨hv, _⟩ | ⟨g', cap', cur, hv, hB, hg, hc, hmx, hsz, htk⟩
  · cases hv
  · injection hv with e1 e2 e3
    injection e1 with e1
    injection e1 with e1
    subst e1 e2 e3
    intro j hj
    have hj' : j < zs.length := by simpa using hj
    have hcj : cur[j]? = some (.int .i64 zs[j]) := by
      have : (cur.toList.take (zs.length * 1))[j]? = (zs.map (Value.int .i64))[j]? := by rw [htk]
      rw [List.getElem?_take, if_pos (by omega), Array.getElem?_toList, List.getElem?_map, List.getElem?_eq_getElem hj'] at this
      simpa using this
    refine ⟨?_, by simp [World.frozen?, hg]⟩
    simp [World.cell?, hg, hcj, hj']
theorem reversed_below {B : Nat} {w0 w : World} {q g : Nat} {cur : Array Value} {T : TypeId} (d : Array Int) (h : w.heap[g]? = some (.cells cur T)) (hb : Below B w0 w) (hg : B ≤ g) : Below B w0 (putRow (Value.int .i64) (Sort.ahead w q) g 0 d) :=
  ⟨hb.os, hb.tape, hb.output, by rw [(heap_putRow d h).2.2]; exact hb.size, fun k hk => ((heap_putRow d h).2.1 k (by omega)).trans (hb.block k hk)⟩
end Go.Proofs.Ytpbkclciipmonaa.Lst
namespace Go.Proofs.Ytpbkclciipmonaa.F
open Go.ChangeShapes Go.WideShapes Go.ChangeAt Go.RowKit Base Go.Sort
/-- Block b is a stack of that room with xs, the last one on top, which lie in block o. -/
def SAt (w : World) (b : Nat) (o : Option Nat) (room : Nat) (xs : List Int) : Prop :=
  room ≤ 65536 ∧ xs.length ≤ room ∧ ∃ v, w.heap[b]? = some (.cells #[v, .int .i64 (room : Int)] 107) ∧ Lst.OwnI 0 w v xs ∧ v.ownBlock = o
theorem neSt : 107 ≠ 3 := by decide
theorem SAt.lt {w : World} {b : Nat} {o : Option Nat} {room : Nat} {xs : List Int} (h : SAt w b o room xs) : b < w.heap.size ∧ ∀ g, o = some g → g < w.heap.size ∧ g ≠ b := by
  obtain ⟨_, _, v, hb, hown, rfl⟩ := h
  refine ⟨heap_lt hb, fun g hg => ⟨(World.ownsRow.lt hown g hg).2, fun e => ?_⟩⟩
  have := own_ne hown hb neSt
  rw [e] at hg
  exact this hg
theorem SAt.fr {w w' : World} {F : Nat → Prop} {b : Nat} {o : Option Nat} {room : Nat} {xs : List Int} (h : SAt w b o room xs) (hf : Fr F w w') (hb : ¬ F b) (ho : ∀ g, o = some g → ¬ F g) : SAt w' b o room xs := by
  have hl := h.lt
  obtain ⟨h1, h2, v, hv, hown, rfl⟩ := h
  refine ⟨h1, h2, v, (hf.block hl.1 hb).trans hv, ?_, rfl⟩
  refine ⟨hown.1, ?_⟩
  rcases hown.2 with hn | ⟨g, cap, cur, rfl, hB, hg, rest⟩
  · exact .inl hn
  · exact .inr ⟨g, cap, cur, rfl, hB, (hf.block (heap_lt hg) (ho g rfl)).trans hg, rest⟩
theorem SAt.below {w w' : World} {b : Nat} {o : Option Nat} {room : Nat} {xs : List Int} (h : SAt w b o room xs) (hb : Below w.heap.size w w') : SAt w' b o room xs :=
  h.fr (Fr.of_below (F := fun _ => False) hb) (fun e => e) (fun _ _ e => e)
theorem SAt.open_ {w : World} {b : Nat} {o : Option Nat} {room : Nat} {xs : List Int} (h : SAt w b o room xs) : ∃ p c, (w.cell? ⟨b, 0, none⟩ = some (.slice p xs.length c) ∧ w.cell? ⟨b, 1, none⟩ = some (.int .i64 (room : Int))) ∧ w.frozen? ⟨b, 0, none⟩ = false ∧ Lst.OwnI 0 w (.slice p xs.length c) xs ∧ (Value.slice p xs.length c).ownBlock = o ∧ w.heap[b]? = some (.cells #[.slice p xs.length c, .int .i64 (room : Int)] 107) := by
  obtain ⟨_, _, v, hb, hown, ho⟩ := h
  obtain ⟨p, c, rfl⟩ : ∃ p c, v = .slice p xs.length c := by
    rcases hown.2 with ⟨hv, h0⟩ | ⟨g, cap, cur, hv, _⟩
    · exact ⟨none, 0, by rw [hv, h0]⟩
    · exact ⟨_, _, hv⟩
  exact ⟨p, c, by simp [World.cell?, hb], by simp [World.frozen?, hb], hown, ho, hb⟩
/-- What New leaves. -/
def NewS (n : Int) (w : World) (e : Ending) (w' : World) : Prop := e = .returned (.pointer (some ⟨w.heap.size, 0, none⟩)) ∧ SAt w' w.heap.size none (roomOf n) [] ∧ Below w.heap.size w w'
theorem fsnew (n : Int) (w : World) : Calls Try.prog 29 #[.int .i64 n] w (NewS n w) := by
  have HB := Lib.hid (fbounded n w)
  have KEY : Hid (NewS n w (.returned (.pointer (some ⟨w.heap.size, 0, none⟩))) (w.alloc (.cells #[.slice none 0 0, .int .i64 ((roomOf n : Nat) : Int)] 107))) := Lib.hid
    ⟨rfl, ⟨roomOf_le n, Nat.zero_le _, .slice none 0 0, heap_alloc_at _ _ _ rfl, Lst.OwnI.nil _ _, rfl⟩, (Below.refl _ _).alloc (Nat.le_refl _) _⟩
  generalize NewS n w = Post at KEY ⊢
  go_enter Try.func29, Try.ntmps29
  go_wp2_with fail
  refine HB.out.mono ?_
  rintro e w1 ⟨rfl, rfl⟩
  go_wp2
  exact KEY.out
theorem fsproom {w : World} {b : Nat} {o : Option Nat} {room : Nat} {xs : List Int} (h : SAt w b o room xs) : Calls Try.prog 85 #[.pointer (some ⟨b, 0, none⟩)] w (IntDrew ((room : Int) - (xs.length : Int)) w) := by
  have h1 := h.1
  have h2 := h.2.1
  obtain ⟨p, c, ⟨c0, c1⟩, _⟩ := h.open_
  have e1 : IntKind.i64.wrap ((room : Int) - (xs.length : Int)) = (room : Int) - (xs.length : Int) := by rw [IntKind.wrap_i64]; omega
  clear h
  go_enter Try.func85, Try.ntmps85
  go_wp2
  go_quiet (fail)
  go_wp2
  go_ret
  exact ⟨rfl, _, rfl⟩
theorem fsroom {w : World} {b : Nat} {o : Option Nat} {room : Nat} {xs : List Int} (h : SAt w b o room xs) : Calls Try.prog 68 #[.pointer (some ⟨b, 0, none⟩)] w (IntDrew ((room : Int) - (xs.length : Int)) w) := by
  have HS := Lib.hid (fsproom h)
  go_enter Try.func68, Try.ntmps68
  go_wp2_with fail
  refine HS.out.mono ?_
  rintro e w1 ⟨rfl, n, rfl⟩
  go_wp2
  go_ret
  exact ⟨rfl, _, rfl⟩
theorem fsroom_nil (w : World) : Calls Try.prog 68 #[.pointer none] w (IntDrew 0 w) := by
  go_enter Try.func68, Try.ntmps68
  go_wp2
  go_ret
  exact ⟨rfl, 0, rfl⟩
end Go.Proofs.Ytpbkclciipmonaa.F
namespace Go.Proofs.Ytpbkclciipmonaa.F
open Go.ChangeShapes Go.WideShapes Go.ChangeAt Go.RowKit Base Go.Sort
/-- What becomes of a stack. -/
def SPost (b : Nat) (o : Option Nat) (room : Nat) (xs : List Int) (v : Value) (w : World) (e : Ending) (w' : World) : Prop := e = .returned v ∧ ∃ o', SAt w' b o' room xs ∧ Mv o o' w ∧ Fr (ArF b o) w w'
theorem SAt.store {w : World} {b : Nat} {o : Option Nat} {room : Nat} {xs : List Int} {v' : Value} (h : ∃ v, w.heap[b]? = some (.cells #[v, .int .i64 (room : Int)] 107)) (hown : Lst.OwnI 0 w v' xs) (ho : v'.ownBlock = o) (h1 : room ≤ 65536) (h2 : xs.length ≤ room) : SAt (w.setCell ⟨b, 0, none⟩ v') b o room xs := by
  obtain ⟨v, hb⟩ := h
  have hne := own_ne hown hb neSt
  refine ⟨h1, h2, v', by simp [World.setCell, Array.getElem?_modify, hb], ?_, ho⟩
  have hown' : w.ownsRow 0 3 1 v' xs.length (xs.map (Value.int .i64)) := hown
  exact hown'.kept (row := some b) ⟨rfl, rfl, rfl, by simp [World.setCell], fun k _ hk => Below.heap_setCell _ _ _ _ (fun e => hk (by simp [e]))⟩ (.inr hne)
theorem fspush_full {w : World} {b : Nat} {o : Option Nat} {room : Nat} {xs : List Int} (h : SAt w b o room xs) (hf : xs.length = room) (x : Int) : Calls Try.prog 31 #[.pointer (some ⟨b, 0, none⟩), .int .i64 x] w fun e w' => e = .returned (.int .i64 2) ∧ ∃ n, w' = w.drewN n := by
  have HR := Lib.hid (fsroom h)
  rw [hf, Int.sub_self] at HR
  clear h hf
  go_enter Try.func31, Try.ntmps31
  go_wp2_with fail
  refine HR.out.mono ?_
  rintro e w1 ⟨rfl, n, rfl⟩
  go_wp2
  go_ret
  exact ⟨rfl, n, rfl⟩
theorem fspush_nil (x : Int) (w : World) : Calls Try.prog 31 #[.pointer none, .int .i64 x] w fun e w' => e = .returned (.int .i64 2) ∧ ∃ n, w' = w.drewN n := by
  go_enter Try.func31, Try.ntmps31
  go_wp2_with fail
  refine (fsroom_nil _).mono ?_
  rintro e w1 ⟨rfl, n, rfl⟩
  go_wp2
  go_ret
  exact ⟨rfl, n, rfl⟩
set_option maxHeartbeats 1000000 in
set_option maxRecDepth 100000 in
theorem fsput {w : World} {b : Nat} {o : Option Nat} {room : Nat} {xs : List Int} (h : SAt w b o room xs) (hf : xs.length < room) (x : Int) : Calls Try.prog 69 #[.pointer (some ⟨b, 0, none⟩), .int .i64 x] w (SPost b o room (xs ++ [x]) (.tuple #[]) w) := by
  have hlt := h.lt
  have hr := h.1
  have hl := h.2.1
  obtain ⟨p, c, ⟨c0, c1⟩, f0, hown, ho, hb⟩ := h.open_
  have HO := Lib.hid hown
  have HS : Hid (∀ (w' : World) (v' : Value), Lst.OwnI 0 w' v' (xs ++ [x]) → (w.alloc (.cells #[.int .i64 x] 3)).grownBy w' (Value.slice p xs.length c).ownBlock → (v'.ownBlock = (Value.slice p xs.length c).ownBlock ∨ v'.ownBlock = some (w.alloc (.cells #[.int .i64 x] 3)).heap.size) →
      ∃ g cap, v' = .slice (some ⟨g, 0, none⟩) (xs.length + 1) cap ∧ w'.cell? ⟨b, 0, none⟩ = some (.slice p xs.length c) ∧ w'.frozen? ⟨b, 0, none⟩ = false ∧ Hid (SPost b o room (xs ++ [x]) (.tuple #[]) w (.returned (.tuple #[])) (w'.setCell ⟨b, 0, none⟩ v'))) := Lib.hid fun w' v' ho' hg hat => by
    obtain ⟨g, cap, hv⟩ : ∃ g cap, v' = .slice (some ⟨g, 0, none⟩) (xs.length + 1) cap := by
      rcases ho'.form with ⟨h0, _⟩ | ⟨g, cap, hv, _⟩
      · simp at h0
      · exact ⟨g, cap, by simpa using hv⟩
    have hne : (Value.slice p xs.length c).ownBlock ≠ some b := fun e => (hlt.2 b (ho.symm.trans e)).2 rfl
    have hb1 := heap_alloc_lt w (.cells #[.int .i64 x] 3) _ _ hb
    have hb2 := (hg.block b (heap_lt hb1) (fun e => hne e.symm)).trans hb1
    have hFr : Fr (ArF b o) w w' := ((Fr.refl (ArF b o) w).alloc _).trans (Fr.of_grown (F := fun g => o = some g) hg (fun k hk => ho.symm.trans hk)) (fun g _ e => .inr e)
    refine ⟨g, cap, hv, by simp [World.cell?, hb2], by simp [World.frozen?, hb2], Lib.hid ⟨rfl, v'.ownBlock, SAt.store ⟨_, hb2⟩ ho' rfl hr (by rw [List.length_append, List.length_singleton]; omega), ?_, hFr.setCell (.inl rfl) 0 _⟩⟩
    rcases hat with h | h
    · exact .inl (h.trans ho)
    · exact .inr ⟨_, h, by simp⟩
  have hbl := heap_lt hb
  clear h hown ho hb hlt
  generalize SPost b o room (xs ++ [x]) (.tuple #[]) w = Post at HS ⊢
  go_enter Try.func69, Try.ntmps69
  go_wp2_with (at_builtin; refine Lst.append_ints rfl (.tmp 8) (.tmp 10) rfl (Nat.zero_le _) (Lst.OwnI.lay HO.out rfl _) rfl (Lst.int_lit x _) (fun n c e => by cases e) rfl (by simp; omega) ?_; intro v' w' ho hg hat; obtain ⟨g, cap, rfl, d0, e0, HE⟩ := HS.out _ _ ho hg hat; clear ho hg hat)
  go_end0
  exact HE.out
set_option maxHeartbeats 1000000 in
theorem fspush_ok {w : World} {b : Nat} {o : Option Nat} {room : Nat} {xs : List Int} (h : SAt w b o room xs) (hf : xs.length < room) (x : Int) : Calls Try.prog 31 #[.pointer (some ⟨b, 0, none⟩), .int .i64 x] w (SPost b o room (xs ++ [x]) (.int .i64 0) w) := by
  have HR := Lib.hid (fsroom h)
  have hne : ((room : Int) - (xs.length : Int) == 0) = false := by rw [beq_eq_false_iff_ne]; omega
  have HP : Hid (∀ n, Calls Try.prog 69 #[.pointer (some ⟨b, 0, none⟩), .int .i64 x] (w.drewN n) (SPost b o room (xs ++ [x]) (.tuple #[]) (w.drewN n))) := Lib.hid fun n => fsput (h.below (below_drewN (Below.refl _ _) n)) hf x
  clear h hf
  go_enter Try.func31, Try.ntmps31
  go_wp2_with fail
  refine HR.out.mono ?_
  rintro e w1 ⟨rfl, n, rfl⟩
  go_wp2_with fail
  refine (HP.out _).mono ?_
  rintro e w1 ⟨rfl, h1⟩
  have HH := Lib.hid h1
  clear h1
  go_wp2
  go_ret
  exact ⟨rfl, HH.out⟩
end Go.Proofs.Ytpbkclciipmonaa.F
namespace Go.Proofs.Ytpbkclciipmonaa.F
open Go.ChangeShapes Go.WideShapes Go.ChangeAt Go.RowKit Base Go.Sort
/-- What Pop leaves: the top is gone. -/
def PopS (b : Nat) (o : Option Nat) (room : Nat) (xs : List Int) (w : World) (e : Ending) (w' : World) : Prop := SPost b o room xs.dropLast (fstV xs.reverse) w e w'
theorem rev_empty (p : Option Addr) (c : Nat) (w : World) : Calls Try.prog 87 #[.slice p 0 c] w fun e w' => e = .returned (.tuple #[]) ∧ w' = w := Try.slices_Reverse_int_empty p c w
set_option maxHeartbeats 1000000 in
theorem fsdown {w : World} {b : Nat} {o : Option Nat} {room : Nat} {xs : List Int} (h : SAt w b o room xs) : Calls Try.prog 70 #[.pointer (some ⟨b, 0, none⟩)] w (OwnNew xs.reverse w) := by
  have hr := h.1
  have hl := h.2.1
  obtain ⟨p, c, ⟨c0, c1⟩, f0, hown, ho, hb⟩ := h.open_
  have HC : Hid (Calls Try.prog 86 #[.slice p xs.length c] w (OwnNew xs w)) := Lib.hid (by
    rcases hown.form with ⟨rfl, hv⟩ | ⟨g, cap, hv, _, _, _⟩
    · injection hv with e1 _ e3
      subst e1 e3
      exact (Try.slices_Clone_int_nil 0 0 w).mono fun e w' ⟨h1, h2⟩ => ⟨_, h1, Lst.OwnI.nil _ _, by rw [h2]; exact Below.refl _ _⟩
    · injection hv with e1 _ e3
      subst e1 e3
      rcases hown.ints (by omega) with ⟨_, rfl⟩ | ⟨g', o', c', hv', _, _, _, hcell⟩
      · exact (Try.slices_Clone_int_zero ⟨g, 0, none⟩ c w).mono fun e w' ⟨v, h1, h2, _, h4⟩ => ⟨v, h1, h2, h4⟩
      · injection hv' with f1 _ _
        injection f1 with f1
        injection f1 with f1 f4
        subst f1 f4
        refine (Try.slices_Clone_int g 0 xs.length c xs w (Nat.le_refl _) (by omega) hcell).mono fun e w' ⟨v, h1, h2, _, h4⟩ => ⟨v, h1, ?_, h4⟩
        rw [List.take_length] at h2
        exact h2)
  have HR : Hid (∀ (w' : World) (v : Value), Lst.OwnI w.heap.size w' v xs → Below w.heap.size w w' → Calls Try.prog 87 #[v] w' fun e w'' => e = .returned (.tuple #[]) ∧ Lst.OwnI w.heap.size w'' v xs.reverse ∧ Below w.heap.size w w'') := Lib.hid fun w' v h1 h2 => by
    rcases h1.form with ⟨rfl, rfl⟩ | ⟨g, cap, rfl, hB, _, _⟩
    · exact (rev_empty none 0 w').mono fun e w'' ⟨h3, h4⟩ => ⟨h3, by rw [h4]; exact Lst.OwnI.nil _ _, by rw [h4]; exact h2⟩
    · refine (Try.slices_Reverse_int g 0 cap xs w' h1.holds (by omega)).mono fun e w'' ⟨h3, n, h4⟩ => ⟨h3, by rw [h4]; exact h1.reversed, ?_⟩
      rcases h1.2 with ⟨hv, _⟩ | ⟨g', cap', cur, hv, _, hg, _⟩
      · cases hv
      · injection hv with e1 _ _
        injection e1 with e1
        injection e1 with e1
        subst e1
        rw [h4]
        exact Lst.reversed_below _ hg h2 hB
  clear h hown ho hb
  generalize xs.length = n at *
  go_enter Try.func70, Try.ntmps70
  go_wp2_with fail
  refine HC.out.mono ?_
  rintro e w1 ⟨v, rfl, h1, h2⟩
  have HR1 := Lib.hid (HR.out _ _ h1 h2)
  clear h1 h2
  go_wp2_with fail
  refine HR1.out.mono ?_
  rintro e w2 ⟨rfl, h1, h2⟩
  have H1 := Lib.hid h1
  have H2 := Lib.hid h2
  clear h1 h2
  go_wp2
  go_ret
  exact ⟨v, rfl, H1.out, H2.out⟩
theorem fslist {w : World} {b : Nat} {o : Option Nat} {room : Nat} {xs : List Int} (h : SAt w b o room xs) : Calls Try.prog 32 #[.pointer (some ⟨b, 0, none⟩)] w (OwnNew xs.reverse w) := by
  have HS := Lib.hid (fsdown h)
  clear h
  go_enter Try.func32, Try.ntmps32
  go_wp2_with fail
  refine HS.out.mono ?_
  rintro e w1 ⟨v, rfl, h1, h2⟩
  have H1 := Lib.hid h1
  have H2 := Lib.hid h2
  clear h1 h2
  go_wp2
  go_ret
  exact ⟨v, rfl, H1.out, H2.out⟩
end Go.Proofs.Ytpbkclciipmonaa.F
namespace Go.Proofs.Ytpbkclciipmonaa.F
open Go.ChangeShapes Go.WideShapes Go.ChangeAt Go.RowKit Base
/-- The blocks of a queue and of a stack. -/
def FF (qb qg sb : Nat) (so : Option Nat) (g : Nat) : Prop := (g = qb ∨ g = qg) ∨ ArF sb so g
def FI (w0 w : World) (qb qg sb : Nat) (so : Option Nat) (rq rs : Nat) (xq xs : List Int) (bs : List (Nat × Obj)) : Prop :=
  QAt w qb qg rq xq ∧ SAt w sb so rs xs ∧ Below w0.heap.size w0 w ∧ (∀ g, FF qb qg sb so g → w0.heap.size ≤ g) ∧ (qb ≠ sb ∧ qg ≠ sb ∧ so ≠ some qb ∧ so ≠ some qg) ∧ ∀ p ∈ bs, w.heap[p.1]? = some p.2 ∧ ¬ FF qb qg sb so p.1
section
variable {w0 w w' : World} {qb qg sb : Nat} {so : Option Nat} {rq rs : Nat} {xq xs : List Int} {bs : List (Nat × Obj)}
theorem FI.below (h : FI w0 w qb qg sb so rq rs xq xs bs) (hb : Below w.heap.size w w') : FI w0 w' qb qg sb so rq rs xq xs bs := by
  obtain ⟨h1, h2, h3, h4, h5, h6⟩ := h
  exact ⟨h1.below hb, h2.below hb, h3.trans (hb.mono h3.size), h4, h5, fun p hp => ⟨(hb.block _ (heap_lt (h6 p hp).1)).trans (h6 p hp).1, (h6 p hp).2⟩⟩
theorem FI.q {xq' : List Int} {v : Value} {e : Ending} (h : FI w0 w qb qg sb so rq rs xq xs bs) (hp : QPost qb qg rq xq' v w e w') : e = .returned v ∧ Hid (FI w0 w' qb qg sb so rq rs xq' xs bs) := by
  obtain ⟨h1, h2, h3, h4, h5, h6⟩ := h
  obtain ⟨he, k1, k2⟩ := hp
  refine ⟨he, Lib.hid ⟨k1, h2.fr k2 (fun k => ?_) (fun g hg k => ?_), ?_, h4, h5, fun p hp => ⟨(k2.block (heap_lt (h6 p hp).1) (fun k => (h6 p hp).2 (.inl k))).trans (h6 p hp).1, (h6 p hp).2⟩⟩⟩
  · rcases k with k | k
    · exact h5.1 k.symm
    · exact h5.2.1 k.symm
  · rcases k with k | k
    · exact h5.2.2.1 (by rw [hg, k])
    · exact h5.2.2.2 (by rw [hg, k])
  · have := (Fr.of_below (F := fun k => k = qb ∨ k = qg) h3).trans k2 (fun g _ k => k)
    exact this.below (fun g k => h4 g (.inl k)) (Nat.le_refl _)
theorem FI.s {xs' : List Int} {v : Value} {e : Ending} (h : FI w0 w qb qg sb so rq rs xq xs bs) (hp : SPost sb so rs xs' v w e w') : e = .returned v ∧ ∃ so', Hid (FI w0 w' qb qg sb so' rq rs xq xs' bs) := by
  obtain ⟨h1, h2, h3, h4, h5, h6⟩ := h
  obtain ⟨he, so', k1, k2, k3⟩ := hp
  have hlq := h1.lt
  have hnew : ∀ g, so' = some g → so = some g ∨ w.heap.size ≤ g := fun g hg => by
    rcases k2 with rfl | ⟨g', e', hg'⟩
    · exact .inl hg
    · rw [hg] at e'; injection e' with e'; exact .inr (e' ▸ hg')
  refine ⟨he, so', Lib.hid ⟨h1.fr k3 (fun k => ?_) (fun k => ?_), k1, ?_, fun g hg => ?_, ⟨h5.1, h5.2.1, fun e => ?_, fun e => ?_⟩, fun p hp => ?_⟩⟩
  · rcases k with k | k
    · exact h5.1 k
    · exact h5.2.2.1 k
  · rcases k with k | k
    · exact h5.2.1 k
    · exact h5.2.2.2 k
  · have := (Fr.of_below (F := ArF sb so) h3).trans k3 (fun g _ k => k)
    exact this.below (fun g k => h4 g (.inr k)) (Nat.le_refl _)
  · rcases hg with hg | hg | hg
    · exact h4 g (.inl hg)
    · exact h4 g (.inr (.inl hg))
    · rcases hnew g hg with k | k
      · exact h4 g (.inr (.inr k))
      · exact Nat.le_trans h3.size k
  · rcases hnew _ e with k | k
    · exact h5.2.2.1 k
    · omega
  · rcases hnew _ e with k | k
    · exact h5.2.2.2 k
    · omega
  · have hpl := heap_lt (h6 p hp).1
    refine ⟨(k3.block hpl (fun k => (h6 p hp).2 (.inr k))).trans (h6 p hp).1, fun k => ?_⟩
    rcases k with k | k | k
    · exact (h6 p hp).2 (.inl k)
    · exact (h6 p hp).2 (.inr (.inl k))
    · rcases hnew _ k with k | k
      · exact (h6 p hp).2 (.inr (.inr k))
      · omega
theorem FI.fflt (h : FI w0 w qb qg sb so rq rs xq xs bs) {g : Nat} (k : FF qb qg sb so g) : g < w.heap.size := by
  rcases k with (k | k) | k | k
  · rw [k]; exact h.1.lt.1
  · rw [k]; exact h.1.lt.2
  · rw [k]; exact h.2.1.lt.1
  · exact (h.2.1.lt.2 g k).1
theorem FI.add (h : FI w0 w qb qg sb so rq rs xq xs bs) (ob : Obj) : FI w0 (w.alloc ob) qb qg sb so rq rs xq xs ((w.heap.size, ob) :: bs) := by
  have h2 := h.below ((Below.refl _ _).alloc (Nat.le_refl _) ob)
  refine ⟨h2.1, h2.2.1, h2.2.2.1, h2.2.2.2.1, h2.2.2.2.2.1, fun p hp => ?_⟩
  rcases List.mem_cons.1 hp with rfl | hp
  · exact ⟨heap_alloc_at _ _ _ rfl, fun k => Nat.lt_irrefl _ (h.fflt k)⟩
  · exact h2.2.2.2.2.2 p hp
theorem FI.keepNew {wa : World} {g : Nat} {ob : Obj} (h : FI w0 wa qb qg sb so rq rs xq xs bs) (hb : Below wa.heap.size wa w) (hg : w.heap[g]? = some ob) (h0 : wa.heap.size ≤ g) : FI w0 w qb qg sb so rq rs xq xs ((g, ob) :: bs) := by
  have h2 := h.below hb
  refine ⟨h2.1, h2.2.1, h2.2.2.1, h2.2.2.2.1, h2.2.2.2.2.1, fun p hp => ?_⟩
  rcases List.mem_cons.1 hp with rfl | hp
  · exact ⟨hg, fun k => by have := h.fflt k; omega⟩
  · exact h2.2.2.2.2.2 p hp
theorem FI.drop {bs' : List (Nat × Obj)} (h : FI w0 w qb qg sb so rq rs xq xs bs) (hb : ∀ p ∈ bs', p ∈ bs) : FI w0 w qb qg sb so rq rs xq xs bs' := ⟨h.1, h.2.1, h.2.2.1, h.2.2.2.1, h.2.2.2.2.1, fun p hp => h.2.2.2.2.2 p (hb p hp)⟩
theorem FI.new {w1 w2 : World} {e1 e2 : Ending} {n m : Int} (h1 : NewQ n w e1 w1) (h2 : NewS m w1 e2 w2) : ∃ qb qg sb, e1 = .returned (.pointer (some ⟨qb, 0, none⟩)) ∧ e2 = .returned (.pointer (some ⟨sb, 0, none⟩)) ∧ Hid (FI w w2 qb qg sb none (roomOf n) (roomOf m) [] [] []) := by
  obtain ⟨b, g, he, a1, a2, a3, a4⟩ := h1
  obtain ⟨he2, b1, b2⟩ := h2
  have hl := a1.lt
  refine ⟨b, g, w1.heap.size, he, he2, Lib.hid ⟨a1.below b2, b1, a4.trans (b2.mono a4.size), fun k hk => ?_, ⟨by omega, by omega, by simp, by simp⟩, (fun p hp => by cases hp)⟩⟩
  rcases hk with (k | k) | k | k
  · omega
  · omega
  · have := a4.size; omega
  · cases k
end
end Go.Proofs.Ytpbkclciipmonaa.F
namespace Go.Proofs.Ytpbkclciipmonaa.Lst
open Go.ChangeShapes Go.WideShapes Go.ChangeAt Go.RowKit Base
theorem lists_ext {xs ys : List Int} (hl : xs.length = ys.length) (h : ∀ j, j < xs.length → xs.getD j 0 = ys.getD j 0) : xs = ys := by
  apply List.ext_getElem hl
  intro i h1 h2
  have := h i h1
  simpa [h1, h2] using this
set_option maxHeartbeats 1000000 in
theorem sameInts_any (g o c g' o' c' : Nat) (xs ys : List Int) (w : World) (hx : ∀ k, k < xs.length → w.cell? ⟨g, o + k, none⟩ = some (.int .i64 (xs.getD k 0))) (hy : ∀ k, k < ys.length → w.cell? ⟨g', o' + k, none⟩ = some (.int .i64 (ys.getD k 0))) (hl : xs.length ≤ 9223372036854775807) (_ : ys.length ≤ 9223372036854775807) :
    Calls Try.prog 16 #[.slice (some ⟨g, o, none⟩) xs.length c, .slice (some ⟨g', o', none⟩) ys.length c'] w fun e w' => e = .returned (.bool (decide (xs = ys))) ∧ ∃ q, w' = w.drewN q := by
  have HX := Lib.hid hx
  have HY := Lib.hid hy
  clear hx hy
  by_cases hn : xs.length = ys.length
  · have HEQ : Hid ((∀ j, j < xs.length → xs.getD j 0 = ys.getD j 0) → decide (xs = ys) = true) := Lib.hid fun h => decide_eq_true (lists_ext hn h)
    have HNE : Hid (∀ j, xs.getD j 0 ≠ ys.getD j 0 → decide (xs = ys) = false) := Lib.hid fun j h => decide_eq_false (fun e => h (by rw [e]))
    have hb : ((xs.length : Int) != (ys.length : Int)) = false := by rw [bne_eq_false_iff_eq]; omega
    have HN := Lib.hid hn
    clear hn
    generalize decide (xs = ys) = r at HEQ HNE ⊢
    go_enter Try.func16, Try.ntmps16
    go_wp2
    go_loopg [13] xs.length (fun gg s13 wr => ∃ k q : Nat, k ≤ xs.length ∧ xs.length - k ≤ gg ∧ s13 = .int .i64 k ∧ wr = w.drewN q ∧ Hid (∀ j, j < k → xs.getD j 0 = ys.getD j 0))
    case atStart => exact ⟨0, 0, Nat.zero_le _, by omega, rfl, rfl, Lib.hid (fun j hj => absurd hj (by omega))⟩
    case round =>
      obtain ⟨k, q, hk, hg, rfl, rfl, HK⟩ := hrel
      by_cases hlt : k < xs.length
      · have h1 := HX.out k hlt
        have h2 := HY.out k (by rw [← HN.out]; exact hlt)
        have hlt' : k < ys.length := by rw [← HN.out]; exact hlt
        have HKK : Hid (xs.getD k 0 = ys.getD k 0 → ∀ j, j < k + 1 → xs.getD j 0 = ys.getD j 0) := Lib.hid fun h j hj => by
          by_cases e : j = k
          · rw [e]; exact h
          · exact HK.out j (by omega)
        have HNK := Lib.hid (HNE.out k)
        generalize xs.getD k 0 = x at h1 HKK HNK
        generalize ys.getD k 0 = y at h2 HKK HNK
        by_cases hxy : x = y
        · have hd : (x != y) = false := by rw [bne_eq_false_iff_eq]; exact hxy
          have HK2 := Lib.hid (HKK.out hxy)
          clear hxy HKK HNK HK
          go_wp2_with fail
          go_quiet (fail)
          go_wp2
          go_roundg (xs.length - (k + 1))
          case measure => omega
          case rel => exact ⟨k + 1, q + nq, by omega, Nat.le_refl _, by go_num, rfl, HK2⟩
        · have hd : (x != y) = true := by rw [bne_iff_ne]; exact hxy
          have HF := Lib.hid (HNK.out hxy)
          clear hxy HKK HNK HK
          go_wp2_with fail
          go_quiet (fail)
          go_wp2
          go_ret
          exact ⟨ret_bool HF.out.symm, q + nq, World.drewN_drewN _ _ _⟩
      · have HT := Lib.hid (HEQ.out fun j hj => HK.out j (by omega))
        clear HK HEQ HNE
        go_wp2
        go_ret
        exact ⟨ret_bool HT.out.symm, _, rfl⟩
  · have HF : Hid (decide (xs = ys) = false) := Lib.hid (decide_eq_false (fun e => hn (by rw [e])))
    have hb : ((xs.length : Int) != (ys.length : Int)) = true := by rw [bne_iff_ne]; omega
    clear hn
    generalize decide (xs = ys) = r at HF ⊢
    go_enter Try.func16, Try.ntmps16
    go_wp2
    go_ret
    exact ⟨ret_bool HF.out.symm, 0, rfl⟩
theorem same_ne (p p' : Option Addr) (m m' c c' : Nat) (w : World) (hne : m ≠ m') :
    Calls Try.prog 16 #[.slice p m c, .slice p' m' c'] w fun e w' => e = .returned (.bool false) ∧ w' = w := by
  have hb : ((m : Int) != (m' : Int)) = true := by rw [bne_iff_ne]; omega
  clear hne
  go_enter Try.func16, Try.ntmps16
  go_wp2
  go_ret
  exact ⟨rfl, rfl⟩
theorem same_zero (p p' : Option Addr) (c c' : Nat) (w : World) :
    Calls Try.prog 16 #[.slice p 0 c, .slice p' 0 c'] w fun e w' => e = .returned (.bool true) ∧ w' = w := by
  go_enter Try.func16, Try.ntmps16
  go_wp2_with fail
  refine wp_loop_rounds 1 ?_
  rw [rounds_succ]
  go_wp2
  go_ret
  exact ⟨rfl, rfl⟩
theorem sameInts_ints {b1 b2 : Nat} {v u : Value} {xs ys : List Int} {w : World} (hx : Ints b1 w v xs) (hy : Ints b2 w u ys) :
    Calls Try.prog 16 #[v, u] w fun e w' => e = .returned (.bool (decide (xs = ys))) ∧ ∃ q, w' = w.drewN q := by
  rcases hx with ⟨⟨p, c, rfl⟩, rfl⟩ | ⟨g, o, c, rfl, _, _, h3, h4⟩ <;> rcases hy with ⟨⟨p', c', rfl⟩, rfl⟩ | ⟨g', o', c', rfl, _, _, h3', h4'⟩
  · exact (same_zero _ _ _ _ w).mono fun e w' h => ⟨by rw [h.1]; rfl, 0, h.2⟩
  · by_cases hz : ys.length = 0
    · have : ys = [] := List.length_eq_zero_iff.1 hz
      subst this
      exact (same_zero _ _ _ _ w).mono fun e w' h => ⟨by rw [h.1]; rfl, 0, h.2⟩
    · refine (same_ne _ _ _ _ _ _ w (fun e => hz e.symm)).mono fun e w' h => ⟨?_, 0, h.2⟩
      rw [h.1, decide_eq_false (fun e => hz (by rw [← e]; rfl))]
  · by_cases hz : xs.length = 0
    · have : xs = [] := List.length_eq_zero_iff.1 hz
      subst this
      exact (same_zero _ _ _ _ w).mono fun e w' h => ⟨by rw [h.1]; rfl, 0, h.2⟩
    · refine (same_ne _ _ _ _ _ _ w hz).mono fun e w' h => ⟨?_, 0, h.2⟩
      rw [h.1, decide_eq_false (fun e => hz (by rw [e]; rfl))]
  · exact sameInts_any g o c g' o' c' xs ys w h4 h4' h3 h3'
/-- What SameInts leaves. -/
def BoolDrew (r : Bool) (w : World) (e : Ending) (w' : World) : Prop := e = .returned (.bool r) ∧ ∃ q, w' = w.drewN q
theorem sameInts_yes {b1 b2 : Nat} {v u : Value} {xs : List Int} {w : World} (hx : Ints b1 w v xs) (hy : Ints b2 w u xs) : Calls Try.prog 16 #[v, u] w (BoolDrew true w) :=
  (sameInts_ints hx hy).mono fun _ _ ⟨h1, h2⟩ => ⟨by rw [h1]; simp, h2⟩
end Go.Proofs.Ytpbkclciipmonaa.Lst
namespace Go.Proofs.Ytpbkclciipmonaa.F
open Go.ChangeShapes Go.WideShapes Go.ChangeAt Go.RowKit Base
/-- The slice v holds xs, in a box; or there is none. -/
def LI (bs : List (Nat × Obj)) (v : Value) (xs : List Int) : Prop :=
  (xs = [] ∧ ∃ p c, v = .slice p 0 c ∧ (p = none → c = 0)) ∨ ∃ q ∈ bs, ∃ cur off c, q.2 = .cells cur 3 ∧ v = .slice (some ⟨q.1, off, none⟩) xs.length c ∧ xs.length ≤ c ∧ ∀ k, k < xs.length → cur[off + k]? = some (.int .i64 (xs.getD k 0))
theorem LI.nil (bs : List (Nat × Obj)) : LI bs (.slice none 0 0) [] := .inl ⟨rfl, none, 0, rfl, fun _ => rfl⟩
theorem LI.mono {bs bs' : List (Nat × Obj)} {v : Value} {xs : List Int} (h : LI bs v xs) (hm : ∀ p ∈ bs, p ∈ bs') : LI bs' v xs := by
  rcases h with h | ⟨q, hq, h⟩
  · exact .inl h
  · exact .inr ⟨q, hm q hq, h⟩
theorem LI.form {bs : List (Nat × Obj)} {v : Value} {xs : List Int} (h : LI bs v xs) : ∃ p c, v = .slice p xs.length c ∧ (p = none → c = 0) ∧ xs.length ≤ c := by
  rcases h with ⟨rfl, p, c, h, hp⟩ | ⟨q, hq, cur, off, c, _, h, hc, _⟩
  · exact ⟨p, c, h, hp, Nat.zero_le _⟩
  · exact ⟨_, c, h, (fun e => by cases e), hc⟩
theorem LI.cap0 {bs : List (Nat × Obj)} {v : Value} {xs : List Int} (h : LI bs v xs) : ∀ n c, v = .slice none n c → c = 0 := fun n c e => by
  obtain ⟨p, c', hv, hp, _⟩ := h.form
  rw [hv] at e
  injection e with e1 _ e3
  rw [← e3]
  exact hp e1
theorem LI.ints {bs : List (Nat × Obj)} {v : Value} {xs : List Int} {w : World} (h : LI bs v xs) (hw : ∀ p ∈ bs, w.heap[p.1]? = some p.2) (hl : xs.length ≤ 9223372036854775807) : Lst.Ints 0 w v xs := by
  rcases h with ⟨rfl, p, c, h, _⟩ | ⟨q, hq, cur, off, c, hq2, h, hc, hk⟩
  · exact .inl ⟨⟨p, c, h⟩, rfl⟩
  · refine .inr ⟨q.1, off, c, h, Nat.zero_le _, heap_lt (hw q hq), hl, fun k hk' => ?_⟩
    have h1 := hw q hq
    rw [hq2] at h1
    simp [World.cell?, h1, hk k hk']
/-- Its first, and a list of the others. -/
theorem LI.tail {bs : List (Nat × Obj)} {p : Option Addr} {n c : Nat} {x : Int} {xs : List Int} (h : LI bs (.slice p n c) (x :: xs)) (hl : xs.length + 1 ≤ 9223372036854775807) : ∃ g off, p = some ⟨g, off, none⟩ ∧ (∀ w : World, (∀ p ∈ bs, w.heap[p.1]? = some p.2) → g < w.heap.size ∧ w.cell? ⟨g, off, none⟩ = some (.int .i64 x)) ∧
    ∃ p' c', (∀ w, (Instr.sliceAt 29 (.slice p n c) (some (.int .i64 1)) none none).run Try.prog w = .ok (.slice p' xs.length c') w) ∧ LI bs (.slice p' xs.length c') xs := by
  rcases h with ⟨h, _⟩ | ⟨q, hq, cur, off, c', hq2, hv, hc, hk⟩
  · cases h
  · injection hv with e1 e2 e3
    subst e1 e2 e3
    rw [List.length_cons] at hc
    refine ⟨q.1, off, rfl, fun w hw => ⟨heap_lt (hw q hq), ?_⟩, ?_⟩
    · have h1 := hw q hq
      rw [hq2] at h1
      have := hk 0 (by simp)
      rw [Nat.add_zero] at this
      simp [World.cell?, h1, this]
    · have hrun : ∀ w, (Instr.sliceAt 29 (.slice (some ⟨q.1, off, none⟩) (x :: xs).length c) (some (.int .i64 ((1 : Nat) : Int))) none none).run Try.prog w = .ok (sliced (some ⟨q.1, off, none⟩) 1 (x :: xs).length c 1) w := fun w => by
        rw [run_sliceAt_slice _ _ _ _ _ _ Lst.elemInts, run_slice_l w _ _ _ _ Lst.elemInts _ _ (by simp) (by simp; omega), Lst.elemInts', Lst.sizeInt]; rfl
      by_cases h1 : c = 1
      · subst h1
        have h0 : xs = [] := List.length_eq_zero_iff.1 (by omega)
        subst h0
        refine ⟨some ⟨q.1, off, none⟩, 0, fun w => (hrun w).trans (by simp [sliced]), .inl ⟨rfl, _, _, rfl, fun e => by cases e⟩⟩
      · refine ⟨some ⟨q.1, off + 1, none⟩, c - 1, fun w => (hrun w).trans (by simp [sliced, h1, Addr.add]), .inr ⟨q, hq, cur, off + 1, c - 1, hq2, rfl, by omega, fun k hk' => ?_⟩⟩
        have := hk (k + 1) (by simpa using hk')
        rw [show off + 1 + k = off + (k + 1) by omega, this]
        simp
/-- A list that a call has made is kept. -/
theorem FI.list {w0 wa w : World} {qb qg sb : Nat} {so : Option Nat} {rq rs : Nat} {xq xs : List Int} {bs : List (Nat × Obj)} {v : Value} {l : List Int} (h : FI w0 wa qb qg sb so rq rs xq xs bs) (ho : Lst.OwnI wa.heap.size w v l) (hb : Below wa.heap.size wa w) :
    ∃ nb, Hid (FI w0 w qb qg sb so rq rs xq xs (nb ++ bs)) ∧ Hid (LI nb v l) := by
  rcases ho.2 with ⟨hv, h0⟩ | ⟨g, cap, cur, hv, hB, hg, hc, _, hsz, htk⟩
  · exact ⟨[], Lib.hid (h.below hb), Lib.hid (.inl ⟨List.length_eq_zero_iff.1 h0, none, 0, hv, fun _ => rfl⟩)⟩
  · refine ⟨[(g, .cells cur 3)], Lib.hid (h.keepNew hb hg hB), Lib.hid (.inr ⟨(g, .cells cur 3), List.mem_singleton.2 rfl, cur, 0, cap, rfl, hv, hc, fun k hk => ?_⟩)⟩
    have : (cur.toList.take (l.length * 1))[k]? = (l.map (Value.int .i64))[k]? := by rw [htk]
    rw [List.getElem?_take, if_pos (by omega), Array.getElem?_toList, List.getElem?_map, List.getElem?_eq_getElem hk] at this
    rw [Nat.zero_add, this, List.getD_eq_getElem?_getD, List.getElem?_eq_getElem hk]
    rfl
end Go.Proofs.Ytpbkclciipmonaa.F
namespace Go.Proofs.Ytpbkclciipmonaa.F
open Go.ChangeShapes Go.WideShapes Go.ChangeAt Go.RowKit Base
/-- An arena that the call made itself. -/
def AI (w0 w : World) (pv : Value) (o : Option Nat) (room : Nat) (zs : List Cel) : Prop := ArV w pv o room zs ∧ Below w0.heap.size w0 w ∧ ∀ g, VF pv o g → w0.heap.size ≤ g
theorem AI.below {w0 w w' : World} {pv : Value} {o : Option Nat} {room : Nat} {zs : List Cel} (h : AI w0 w pv o room zs) (hb : Below w.heap.size w w') : AI w0 w' pv o room zs :=
  ⟨h.1.below hb, h.2.1.trans (hb.mono h.2.1.size), h.2.2⟩
theorem AI.step {w0 w w' : World} {pv v : Value} {o : Option Nat} {room : Nat} {zs zs' : List Cel} {e : Ending} (h : AI w0 w pv o room zs) (hs : ArStep pv o room zs' v w e w') :
    e = .returned v ∧ ∃ o', AI w0 w' pv o' room zs' ∧ w.heap.size ≤ w'.heap.size ∧ Fr (VF pv o) w w' ∧ ∀ g, g < w.heap.size → ¬ VF pv o g → w'.heap[g]? = w.heap[g]? ∧ ¬ VF pv o' g := by
  obtain ⟨he, o', h1, h2, h3⟩ := hs
  refine ⟨he, o', ⟨h1, ?_, fun g hg => ?_⟩, h3.size, h3, fun g hg hn => ⟨h3.block hg hn, fun k => hn (h2.vf g hg k)⟩⟩
  · have := (Fr.of_below (F := VF pv o) h.2.1).trans h3 (fun g _ k => k)
    exact this.below h.2.2 (Nat.le_refl _)
  · rcases Nat.lt_or_ge g w.heap.size with hl | hl
    · exact h.2.2 g (h2.vf g hl hg)
    · exact Nat.le_trans h.2.1.size hl
theorem AI.new {w0 w : World} {b room : Nat} (h : ArAt w b none room []) (hb : Below w0.heap.size w0 w) (hg : w0.heap.size ≤ b) : AI w0 w (.pointer (some ⟨b, 0, none⟩)) none room [] :=
  ⟨ArV.of h, hb, fun g k => by
    rcases k with k | k
    · injection k with k; injection k with k; injection k with k; exact k ▸ hg
    · cases k⟩
/-- A cell's box. -/
def Box (w : World) (g : Nat) (c : Cel) : Prop := w.heap[g]? = some (.cells #[.int .i64 c.l, .int .i64 c.r, .int .i64 c.k, .int .i64 c.v, .int .i64 c.s, .int .i64 c.h] 86)
theorem Box.cells {w : World} {g : Nat} {c : Cel} (h : Box w g c) : g < w.heap.size ∧ (w.cell? ⟨g, 0, none⟩ = some (.int .i64 c.l) ∧ w.cell? ⟨g, 1, none⟩ = some (.int .i64 c.r) ∧ w.cell? ⟨g, 2, none⟩ = some (.int .i64 c.k) ∧ w.cell? ⟨g, 3, none⟩ = some (.int .i64 c.v) ∧ w.cell? ⟨g, 4, none⟩ = some (.int .i64 c.s) ∧ w.cell? ⟨g, 5, none⟩ = some (.int .i64 c.h)) := by
  unfold Box at h
  exact ⟨heap_lt h, by simp [World.cell?, h]⟩
theorem Box.below {w w' : World} {g : Nat} {c : Cel} (h : Box w g c) (hb : Below w.heap.size w w') : Box w' g c := (hb.block g (heap_lt h)).trans h
theorem ArStep.nil_below {o : Option Nat} {room : Nat} {zs : List Cel} {v : Value} {w w' : World} {e : Ending} (h : ArStep (.pointer none) o room zs v w e w') (ho : o = none) : e = .returned v ∧ Below w.heap.size w w' := by
  obtain ⟨he, o', _, _, h3⟩ := h
  subst ho
  refine ⟨he, h3.below (fun g hg => ?_) (Nat.le_refl _)⟩
  rcases hg with k | k <;> cases k
/-- What Get tells, the cell's fields typed out. -/
def GetX (x : Cel) (is : Bool) (w : World) (e : Ending) (w' : World) : Prop := e = .returned (.tuple #[.agg #[.int .i64 x.l, .int .i64 x.r, .int .i64 x.k, .int .i64 x.v, .int .i64 x.s, .int .i64 x.h], .bool is]) ∧ Below w.heap.size w w'
theorem arget_x {pv : Value} {o : Option Nat} {room : Nat} {zs : List Cel} (i : Int) (x : Cel) (is : Bool) (w : World) (h : ArV w pv o room zs) (hx : celAt zs i = x) (hi : decide (1 ≤ i ∧ i ≤ (zs.length : Int)) = is) : Calls Try.prog 74 #[pv, .int .i64 i] w (GetX x is w) := by
  have := arget_v i w h
  rw [hx, hi] at this
  exact this
end Go.Proofs.Ytpbkclciipmonaa.F
namespace Go.Proofs.Ytpbkclciipmonaa.F
open Go.ChangeShapes Go.WideShapes Go.ChangeAt Go.RowKit Base
/-- The slice v holds zs, and lies beside an arena. -/
def QS (w : World) (v : Value) (zs : List Cel) (pv : Value) (o : Option Nat) : Prop :=
  (zs = [] ∧ ∃ p c, v = .slice p 0 c ∧ (p = none → c = 0)) ∨ ∃ g off c, v = .slice (some ⟨g, off, none⟩) zs.length c ∧ zs.length ≤ c ∧ g < w.heap.size ∧ ¬ VF pv o g ∧ Cels 0 w v zs
theorem QS.nil (w : World) (pv : Value) (o : Option Nat) : QS w (.slice none 0 0) [] pv o := .inl ⟨rfl, none, 0, rfl, fun _ => rfl⟩
theorem QS.cels {w : World} {v : Value} {zs : List Cel} {pv : Value} {o : Option Nat} (h : QS w v zs pv o) : Cels 0 w v zs := by
  rcases h with ⟨rfl, h⟩ | ⟨_, _, _, _, _, _, _, h⟩
  · exact .inl ⟨h, rfl⟩
  · exact h
theorem QS.form {w : World} {v : Value} {zs : List Cel} {pv : Value} {o : Option Nat} (h : QS w v zs pv o) : ∃ p c, v = .slice p zs.length c ∧ zs.length ≤ c := by
  rcases h with ⟨rfl, p, c, h, _⟩ | ⟨g, off, c, h, h1, _⟩
  · exact ⟨p, c, h, Nat.zero_le _⟩
  · exact ⟨_, c, h, h1⟩
theorem QS.keep {w w' : World} {v : Value} {zs : List Cel} {pv : Value} {o o' : Option Nat} (h : QS w v zs pv o) (hs : w.heap.size ≤ w'.heap.size) (hk : ∀ g, g < w.heap.size → ¬ VF pv o g → w'.heap[g]? = w.heap[g]? ∧ ¬ VF pv o' g) : QS w' v zs pv o' := by
  rcases h with h | ⟨g, off, c, hv, h1, h2, h3, h4⟩
  · exact .inl h
  · have hk := hk g h2 h3
    refine .inr ⟨g, off, c, hv, h1, Nat.lt_of_lt_of_le h2 hs, hk.2, ?_⟩
    rcases h4 with h4 | ⟨g', o', c', hv', h5, h6, h7, h8⟩
    · exact .inl h4
    · have e : g' = g := by rw [hv] at hv'; injection hv' with e; injection e with e; injection e with e; exact e.symm
      subst e
      refine .inr ⟨g', o', c', hv', h5, Nat.lt_of_lt_of_le h6 hs, h7, fun k hk' => ?_⟩
      have key : ∀ j, w'.cell? ⟨g', j, none⟩ = w.cell? ⟨g', j, none⟩ := fun j => World.cell?_of_block (a := ⟨g', j, none⟩) hk.1
      simp only [key]
      exact h8 k hk'
theorem QS.below {w w' : World} {v : Value} {zs : List Cel} {pv : Value} {o : Option Nat} (h : QS w v zs pv o) (hb : Below w.heap.size w w') : QS w' v zs pv o :=
  h.keep hb.size fun g hg hn => ⟨hb.block g hg, hn⟩
theorem QS.cut {w : World} {p : Option Addr} {c : Nat} {zs : List Cel} {pv : Value} {o : Option Nat} (h : QS w (.slice p zs.length c) zs pv o) {n : Nat} (hn : n ≤ zs.length) : QS w (.slice p n c) (zs.take n) pv o := by
  have hl : (zs.take n).length = n := by rw [List.length_take]; omega
  rcases h with ⟨rfl, p', c', e, h⟩ | ⟨g, off, c', hv, h1, h2, h3, h4⟩
  · injection e with e1 e2 e3
    subst e1 e3
    have : n = 0 := by simpa using hn
    subst this
    exact .inl ⟨rfl, _, _, rfl, h⟩
  · injection hv with e1 e2 e3
    subst e1 e3
    by_cases h0 : n = 0
    · subst h0
      exact .inl ⟨by simp, _, _, rfl, fun e => by cases e⟩
    · refine .inr ⟨g, off, c, by rw [hl], by omega, h2, h3, ?_⟩
      rcases h4 with ⟨_, h4⟩ | ⟨g', o', c', hv', h5, h6, h7, h8⟩
      · subst h4; simp at hn; omega
      · injection hv' with e1 e2 e3
        injection e1 with e1
        injection e1 with e1 e4
        subst e1 e4 e3
        refine .inr ⟨g, off, c, by rw [hl], h5, h6, by omega, fun k hk => ?_⟩
        rw [hl] at hk
        have : (zs.take n).getD k Cel.zero = zs.getD k Cel.zero := by
          rw [List.getD_eq_getElem?_getD, List.getD_eq_getElem?_getD, List.getElem?_take, if_pos hk]
        rw [this]
        exact h8 k (by omega)
/-- What stays on the way: an arena of the call's own, a list beside it, boxes. -/
def PS (w0 w : World) (pv : Value) (o : Option Nat) (room : Nat) (zs : List Cel) (v : Value) (zq : List Cel) (bs : List (Nat × Obj)) : Prop :=
  AI w0 w pv o room zs ∧ QS w v zq pv o ∧ ∀ p ∈ bs, w.heap[p.1]? = some p.2 ∧ ¬ VF pv o p.1
section
variable {w0 w w' : World} {pv v : Value} {o : Option Nat} {room : Nat} {zs zq : List Cel} {bs : List (Nat × Obj)}
theorem PS.below (h : PS w0 w pv o room zs v zq bs) (hb : Below w.heap.size w w') : PS w0 w' pv o room zs v zq bs :=
  ⟨h.1.below hb, h.2.1.below hb, fun p hp => ⟨(hb.block _ (heap_lt (h.2.2 p hp).1)).trans (h.2.2 p hp).1, (h.2.2 p hp).2⟩⟩
theorem PS.step {zs' : List Cel} {e : Ending} {u : Value} (h : PS w0 w pv o room zs v zq bs) (hs : ArStep pv o room zs' u w e w') :
    e = .returned u ∧ ∃ o', Hid (PS w0 w' pv o' room zs' v zq bs) := by
  obtain ⟨he, o', h1, hsz, _, h4⟩ := h.1.step hs
  refine ⟨he, o', Lib.hid ⟨h1, h.2.1.keep hsz h4, fun p hp => ?_⟩⟩
  have := h4 p.1 (heap_lt (h.2.2 p hp).1) (h.2.2 p hp).2
  exact ⟨this.1.trans (h.2.2 p hp).1, this.2⟩
theorem PS.add (h : PS w0 w pv o room zs v zq bs) (ob : Obj) : PS w0 (w.alloc ob) pv o room zs v zq ((w.heap.size, ob) :: bs) := by
  have h2 := h.below ((Below.refl _ _).alloc (Nat.le_refl _) ob)
  refine ⟨h2.1, h2.2.1, fun p hp => ?_⟩
  rcases List.mem_cons.1 hp with rfl | hp
  · exact ⟨heap_alloc_at _ _ _ rfl, fun k => Nat.lt_irrefl _ (h.1.1.lt _ k)⟩
  · exact h2.2.2 p hp
theorem PS.drop {bs' : List (Nat × Obj)} (h : PS w0 w pv o room zs v zq bs) (hb : ∀ p ∈ bs', p ∈ bs) : PS w0 w pv o room zs v zq bs' := ⟨h.1, h.2.1, fun p hp => h.2.2 p (hb p hp)⟩
theorem PS.q {v' : Value} {zq' : List Cel} (h : PS w0 w pv o room zs v zq bs) (hq : QS w v' zq' pv o) : PS w0 w pv o room zs v' zq' bs := ⟨h.1, hq, h.2.2⟩
end
end Go.Proofs.Ytpbkclciipmonaa.F
namespace Go.Proofs.Ytpbkclciipmonaa.F
open Go.ChangeShapes Go.WideShapes Go.ChangeAt Go.RowKit Base
/-- The pairs without a key. -/
def delL (key : Int) (l : List Pai) : List Pai := l.filter fun p => !(p.k == key)
def hasL (key : Int) (l : List Pai) : Bool := l.any fun p => p.k == key
theorem pai_take {l : List Pai} {k : Nat} (hk : k < l.length) : l.take (k + 1) = l.take k ++ [l.getD k Pai.zero] := by
  rw [List.take_succ_eq_append_getElem hk, List.getD_eq_getElem?_getD, List.getElem?_eq_getElem hk]
  rfl
theorem delL_snoc (key : Int) (l : List Pai) (p : Pai) : delL key (l ++ [p]) = if (p.k == key) = true then delL key l else delL key l ++ [p] := by
  unfold delL
  rw [List.filter_append]
  cases h : p.k == key <;> simp [h]
theorem hasL_snoc (key : Int) (l : List Pai) (p : Pai) : hasL key (l ++ [p]) = (hasL key l || (p.k == key)) := by
  unfold hasL
  simp
theorem delL_len (key : Int) (l : List Pai) : (delL key l).length ≤ l.length := List.length_filter_le _ _
/-- What a call that tells a new list of pairs, and a bool, leaves. -/
def PaiBool (zs : List Pai) (is : Bool) (w : World) (e : Ending) (w' : World) : Prop := ∃ v, e = .returned (.tuple #[v, .bool is]) ∧ OwnPai w.heap.size w' v zs ∧ Below w.heap.size w w'
end Go.Proofs.Ytpbkclciipmonaa.F
namespace Go.Proofs.Ytpbkclciipmonaa.F
open Go.ChangeShapes Go.WideShapes Go.ChangeAt Go.RowKit Base
/-- Are two alike? -/
def Pai.beq (x y : Pai) : Bool := decide (x.k = y.k) && decide (x.v = y.v)
theorem Pai.beq_iff (x y : Pai) : Pai.beq x y = true ↔ x = y := by
  unfold Pai.beq
  constructor
  · intro h
    simp only [Bool.and_eq_true, decide_eq_true_eq] at h
    cases x; cases y
    simp_all
  · intro h
    subst h
    simp
theorem Pai.beq_self (x : Pai) : Pai.beq x x = true := (Pai.beq_iff x x).2 rfl
set_option maxHeartbeats 4000000 in
theorem eq_pai (x y : Pai) (w : World) : (binOp .eql 56 (.agg #[.int .i64 x.k, .int .i64 x.v]) (.agg #[.int .i64 y.k, .int .i64 y.v])).run Try.prog w = .ok (.bool (Pai.beq x y)) w := by
  have u3 := Try.underlying3
  have a3 := Try.isAgg3
  have z3 := Try.sizeOf3
  have hS : Try.prog.underlying 56 = some (.struct (Try.prog.fieldsOf 56)) := by kernel_rfl
  have hp : Try.prog.stoodInHeld 56 = false := by kernel_rfl
  rw [run_eql_struct, show (10000 : Nat) = 9999 + 1 from rfl, run_equalIn_agg w 9999 56 _ _ hS hp]
  simp only [Program.fieldsOf, Try.underlying56]
  go_simp
  obtain ⟨x0, x1⟩ := x
  obtain ⟨y0, y1⟩ := y
  unfold Pai.beq
  by_cases h0 : x0 = y0 <;> by_cases h1 : x1 = y1 <;> simp [h0, h1]
set_option maxHeartbeats 4000000 in
theorem ne_pai (x y : Pai) (w : World) : (binOp .neq 56 (.agg #[.int .i64 x.k, .int .i64 x.v]) (.agg #[.int .i64 y.k, .int .i64 y.v])).run Try.prog w = .ok (.bool (!Pai.beq x y)) w := by
  have u3 := Try.underlying3
  have a3 := Try.isAgg3
  have z3 := Try.sizeOf3
  have hS : Try.prog.underlying 56 = some (.struct (Try.prog.fieldsOf 56)) := by kernel_rfl
  have hp : Try.prog.stoodInHeld 56 = false := by kernel_rfl
  rw [run_neq_struct, show (10000 : Nat) = 9999 + 1 from rfl, run_equalIn_agg w 9999 56 _ _ hS hp]
  simp only [Program.fieldsOf, Try.underlying56]
  go_simp
  obtain ⟨x0, x1⟩ := x
  obtain ⟨y0, y1⟩ := y
  unfold Pai.beq
  by_cases h0 : x0 = y0 <;> by_cases h1 : x1 = y1 <;> simp [h0, h1]
end Go.Proofs.Ytpbkclciipmonaa.F
namespace Go.Proofs.Ytpbkclciipmonaa.F
open Go.ChangeShapes Go.WideShapes Go.ChangeAt Go.RowKit Base
/-- Are two lists of pairs one? -/
def sameL (a b : List Pai) : Bool := decide (a.length = b.length) && (List.range a.length).all fun k => Pai.beq (a.getD k Pai.zero) (b.getD k Pai.zero)
theorem sameL_iff (a b : List Pai) : sameL a b = true ↔ a = b := by
  unfold sameL
  rw [Bool.and_eq_true, decide_eq_true_eq, List.all_eq_true]
  constructor
  · rintro ⟨h1, h2⟩
    apply List.ext_getElem h1
    intro k ha hb
    have := (Pai.beq_iff _ _).1 (h2 k (List.mem_range.2 ha))
    simpa [List.getD_eq_getElem?_getD, ha, hb] using this
  · rintro rfl
    exact ⟨rfl, fun k _ => Pai.beq_self _⟩
/-- What a call that tells a bool, and draws, leaves. -/
def BoolDrew (is : Bool) (w : World) (e : Ending) (w' : World) : Prop := e = .returned (.bool is) ∧ ∃ n, w' = w.drewN n
set_option maxRecDepth 100000 in
set_option maxHeartbeats 2000000 in
theorem same_ref {ba bb : Nat} (v u : Value) (a b : List Pai) (w : World) (ha : Pais ba w v a) (hb : Pais bb w u b) (hl : a.length ≤ 100000) : Calls Try.prog 26 #[v, u] w (BoolDrew (sameL a b) w) := by
  obtain ⟨p, c, rfl, _, hca⟩ := ha.open_
  obtain ⟨q, d, rfl, hlb, hcb⟩ := hb.open_
  clear ha hb
  by_cases hne : a.length = b.length
  · have HA := Lib.hid hca
    have HBB := Lib.hid hcb
    have HN : Hid (∀ k, k < a.length → Pai.beq (a.getD k Pai.zero) (b.getD k Pai.zero) = false → sameL a b = false) := Lib.hid fun k hk h => by
      rw [Bool.eq_false_iff]
      intro h2
      rw [(sameL_iff a b).1 h2, Pai.beq_self] at h
      cases h
    have HY : Hid ((∀ k, k < a.length → Pai.beq (a.getD k Pai.zero) (b.getD k Pai.zero) = true) → sameL a b = true) := Lib.hid fun h => by
      unfold sameL
      rw [Bool.and_eq_true, decide_eq_true_eq, List.all_eq_true]
      exact ⟨hne, fun k hk => h k (List.mem_range.1 hk)⟩
    have HE := Lib.hid hne
    rw [← hne] at hcb ⊢
    generalize sameL a b = r at HN HY ⊢
    clear hca hcb hne
    go_enter Try.func26, Try.ntmps26
    go_wp2_with fail
    go_loopw [5, 13] (fun _ s13 wr => ∃ k q : Nat, s13 = .int .i64 (k : Int) ∧ k ≤ a.length ∧ Hid (∀ j, j < k → Pai.beq (a.getD j Pai.zero) (b.getD j Pai.zero) = true) ∧ wr = w.drewN q) (fun _ s13 _ => a.length - (intOf s13).toNat)
    case atStart => exact ⟨0, 0, rfl, Nat.zero_le _, Lib.hid (fun j hj => absurd hj (by omega)), rfl⟩
    case round =>
      obtain ⟨k, nq, rfl, hk, HF, rfl⟩ := hrel
      by_cases hlt : k < a.length
      · obtain ⟨g1, o1, rfl, _, _, c0, c1⟩ := HA.out k hlt
        obtain ⟨g2, o2, rfl, _, _, d0, d1⟩ := HBB.out k (by rw [← HE.out]; exact hlt)
        have hn := HN.out k hlt
        have HF2 : Hid (Pai.beq (a.getD k Pai.zero) (b.getD k Pai.zero) = true → ∀ j, j < k + 1 → Pai.beq (a.getD j Pai.zero) (b.getD j Pai.zero) = true) := Lib.hid fun h j hj => by
          by_cases e : j = k
          · subst e; exact h
          · exact HF.out j (by omega)
        generalize a.getD k Pai.zero = x at c0 c1 hn HF2
        generalize b.getD k Pai.zero = y at d0 d1 hn HF2
        have hq := ne_pai x y
        cases hb : Pai.beq x y
        · have hr := hn hb
          subst hr
          rw [hb] at hq
          clear hn HN HY HF HF2 hb
          go_wp2_with fail
          go_quiet (fail)
          go_wp2
          go_ret
          exact ⟨rfl, _, by rw [World.drewN_drewN]⟩
        · rw [hb] at hq
          have HF3 := Lib.hid (HF2.out hb)
          clear hn hb HF HF2
          go_wp2_with fail
          go_quiet (fail)
          go_wp2
          go_roundw
          case rel => exact ⟨k + 1, _, by go_num, by omega, HF3, rfl⟩
          case measure => simp [intOf]; omega
      · have e : k = a.length := by omega
        subst e
        have hr := HY.out HF.out
        subst hr
        clear HN HY HF HA HBB
        go_wp2
        go_ret
        exact ⟨rfl, _, rfl⟩
  · have hr : sameL a b = false := by
      unfold sameL
      rw [decide_eq_false hne]; rfl
    have hne2 : ((a.length : Int) != (b.length : Int)) = true := by rw [bne_iff_ne]; omega
    rw [hr]
    clear hr hca hcb
    go_enter Try.func26, Try.ntmps26
    go_wp2
    go_ret
    exact ⟨rfl, 0, rfl⟩
end Go.Proofs.Ytpbkclciipmonaa.F
namespace Go.Proofs.Ytpbkclciipmonaa.F
open Go.ChangeShapes Go.WideShapes Go.ChangeAt Go.RowKit Base
/-- A key's value, and whether it is there. -/
def getL (key : Int) (l : List Pai) : Int × Bool := match l.find? fun p => p.k == key with
  | some p => (p.v, true)
  | none => (0, false)
theorem pai_split {l : List Pai} {k : Nat} (hk : k < l.length) : l = l.take k ++ l.getD k Pai.zero :: l.drop (k + 1) := by
  have h1 : l.getD k Pai.zero = l[k] := by rw [List.getD_eq_getElem?_getD, List.getElem?_eq_getElem hk]; rfl
  rw [h1, ← List.drop_eq_getElem_cons hk, List.take_append_drop]
theorem getL_hit {l : List Pai} {k : Nat} {key : Int} (hk : k < l.length) (h : hasL key (l.take k) = false) (hx : ((l.getD k Pai.zero).k == key) = true) : getL key l = ((l.getD k Pai.zero).v, true) := by
  have h1 : (l.take k).find? (fun p => p.k == key) = none := by
    rw [List.find?_eq_none]
    intro x hx h2
    have : hasL key (l.take k) = true := List.any_eq_true.2 ⟨x, hx, h2⟩
    rw [h] at this
    cases this
  unfold getL
  have h3 : l.find? (fun p => p.k == key) = some (l.getD k Pai.zero) := by
    generalize hg : l.getD k Pai.zero = x at hx ⊢
    have hs := pai_split hk
    rw [hg] at hs
    rw [hs, List.find?_append, h1, List.find?_cons, hx]
    rfl
  rw [h3]
theorem getL_none {l : List Pai} {key : Int} (h : hasL key l = false) : getL key l = (0, false) := by
  have h1 : l.find? (fun p => p.k == key) = none := by
    rw [List.find?_eq_none]
    intro x hx h2
    have : hasL key l = true := List.any_eq_true.2 ⟨x, hx, h2⟩
    rw [h] at this
    cases this
  unfold getL
  rw [h1]
/-- What a call that tells a number and a bool, and may make memory, leaves. -/
def IntBool (i : Int) (is : Bool) (w : World) (e : Ending) (w' : World) : Prop := e = .returned (.tuple #[.int .i64 i, .bool is]) ∧ Below w.heap.size w w'
def IntPost (i : Int) (w : World) (e : Ending) (w' : World) : Prop := e = .returned (.int .i64 i) ∧ Below w.heap.size w w'
def BoolPost (is : Bool) (w : World) (e : Ending) (w' : World) : Prop := e = .returned (.bool is) ∧ Below w.heap.size w w'
/-- How many keys are less. -/
def rankL (key : Int) (l : List Pai) : Nat := l.countP fun p => decide (p.k < key)
theorem rankL_snoc (key : Int) (l : List Pai) (p : Pai) : rankL key (l ++ [p]) = rankL key l + if p.k < key then 1 else 0 := by
  unfold rankL
  rw [List.countP_append]
  by_cases h : p.k < key <;> simp [h]
theorem rankL_le (key : Int) (l : List Pai) : rankL key l ≤ l.length := List.countP_le_length
end Go.Proofs.Ytpbkclciipmonaa.F
