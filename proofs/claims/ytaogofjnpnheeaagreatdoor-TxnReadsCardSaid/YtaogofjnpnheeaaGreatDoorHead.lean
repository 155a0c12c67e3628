/-
  Plain facts and contracts of small functions, several texts laid into one. Not a statement of the seat.
-/
import Derived.Lib.ItoaNum
import Derived.Test.YtaogofjnpnheeaaGreatDoorRows
import Derived.WalkKit
import Derived.ProofKit
import Derived.Handy
import Derived.WalkLawsBesides
import Derived.WalkSpells
import Derived.Lib.Hide
import Derived.Laws.IdiomStrings
import Derived.Laws.NewBlocks
import Derived.OpenShut
import Derived.BigQuiet
import Derived.Deep.QuietTactic
import Derived.Laws.BitsAllLaws
import Derived.Deep.DeepHandedRow
import Derived.Laws.Slices
import Derived.Deep.Slices
import Derived.Deep.Fields
import Derived.ChangeSame
import Derived.Laws.AppendOwnNone
import Derived.Maps.AppendAt
import Derived.Deep.RegionLaw
import Derived.Lib.SlicesCompact
import Derived.Lib.Join
import Derived.Laws.Tables
import Derived.Laws.Rows
import Derived.Laws.CopyOwn
namespace Go.Proofs.YtaogofjnpnheeaaGreatDoor.Nu
open Go.Lib
/-- Behind i rounds, U is left, and l is laid. -/
def TextP (N i U : Nat) (l : List UInt8) : Prop := U * 10 ^ i ≤ N ∧ l.length = i ∧ ((i = 0 ∧ U = N ∧ l = []) ∨ (1 ≤ i ∧ (if U = 0 then l = decDigits N else decDigits U ++ l = decDigits N)))
theorem TextP.start (N : Nat) : TextP N 0 N [] := ⟨by simp, rfl, .inl ⟨rfl, rfl, rfl⟩⟩
theorem dec_step (U : Nat) (l : List UInt8) : (if U / 10 = 0 then UInt8.ofNat (48 + U % 10) :: l else decDigits (U / 10) ++ UInt8.ofNat (48 + U % 10) :: l) = decDigits U ++ l := by
  by_cases h : U < 10
  · rw [if_pos (by omega), decDigits, dif_pos h, Nat.mod_eq_of_lt h]; rfl
  · rw [if_neg (by omega), decDigits.eq_def U, dif_neg h, List.append_assoc]; rfl
theorem TextP.step {N i U : Nat} {l : List UInt8} (h : TextP N i U l) (hgo : i = 0 ∨ 0 < U) : TextP N (i + 1) (U / 10) (UInt8.ofNat (48 + U % 10) :: l) := by
  obtain ⟨h1, hl0, h2⟩ := h
  have hd := dec_step U l
  refine ⟨?_, by simp [hl0], .inr ⟨by omega, ?_⟩⟩
  · refine Nat.le_trans ?_ h1
    rw [Nat.pow_succ, Nat.mul_comm (10 ^ i) 10, ← Nat.mul_assoc]
    exact Nat.mul_le_mul_right _ (Nat.div_mul_le_self U 10)
  · have hl : decDigits U ++ l = decDigits N := by
      rcases h2 with ⟨_, e1, e2⟩ | ⟨h3, h4⟩
      · rw [e1, e2, List.append_nil]
      · rw [if_neg (by omega)] at h4; exact h4
    rw [hl] at hd
    by_cases h0 : U / 10 = 0
    · rw [if_pos h0] at hd ⊢; exact hd
    · rw [if_neg h0] at hd ⊢; exact hd
theorem TextP.done {N i : Nat} {l : List UInt8} (h : TextP N i 0 l) (hi : 1 ≤ i) : l = decDigits N := by
  rcases h.2.2 with ⟨h1, _⟩ | ⟨_, h1⟩
  · omega
  · rwa [if_pos rfl] at h1
theorem TextP.few {N i U : Nat} {l : List UInt8} (h : TextP N i U l) (hU : 0 < U) (hN : N < 18446744073709551616) : i < 20 := by
  rcases Nat.lt_or_ge i 20 with h1 | h1
  · exact h1
  · have h2 : 10 ^ 20 ≤ 10 ^ i := Nat.pow_le_pow_right (by decide) h1
    have h3 : 1 * 10 ^ i ≤ U * 10 ^ i := Nat.mul_le_mul_right _ hU
    have := h.1
    have h4 : (10 : Nat) ^ 20 = 100000000000000000000 := by decide
    omega
end Go.Proofs.YtaogofjnpnheeaaGreatDoor.Nu
namespace Go.Proofs.YtaogofjnpnheeaaGreatDoor.Nu
open Go.ChangeShapes Go.WideShapes Go.ChangeAt Go.RowKit Go.Lib
theorem conv1 (W : World) (U : Nat) : (convert 69 9 (.slice (some ⟨W.heap.size, 0, none⟩) 1 1)).run Tryz.prog (W.alloc (.cells #[.int .u8 (48 + (U : Int) % 10)] 5)) = .ok (.string ⟨#[UInt8.ofNat (48 + U % 10)]⟩) (W.alloc (.cells #[.int .u8 (48 + (U : Int) % 10)] 5)) := by
  have h := run_convert_bytes_back (P := Tryz.prog) (W.alloc (.cells #[.int .u8 (48 + (U : Int) % 10)] 5)) 69 9 5 ⟨W.heap.size, 0, none⟩ 1 [UInt8.ofNat (48 + U % 10)] Tryz.underlying69 Tryz.underlying5 Tryz.underlying9 (fun j hj => by
    have hj0 : j = 0 := by simpa using hj
    subst hj0
    have hx : ((UInt8.ofNat (48 + U % 10)).toNat : Int) = 48 + (U : Int) % 10 := by
      rw [UInt8.toNat_ofNat_of_lt' (show 48 + U % 10 < UInt8.size by have : UInt8.size = 256 := rfl; omega)]
      omega
    have hb : (W.alloc (.cells #[.int .u8 (48 + (U : Int) % 10)] 5)).heap[W.heap.size]? = some (.cells #[.int .u8 (48 + (U : Int) % 10)] 5) := by
      show (W.heap.push _)[W.heap.size]? = _
      rw [Array.getElem?_push, if_pos rfl]
    rw [List.getElem_cons_zero, hx]
    rw [show Addr.add ⟨W.heap.size, 0, none⟩ 0 = ⟨W.heap.size, 0, none⟩ by simp [Addr.add]]
    unfold World.cell?
    rw [hb]
    rfl)
  exact h
theorem below_alloc {w wr : World} (h : Below w.heap.size w wr) (o : Obj) : Below w.heap.size w (wr.alloc o) := h.alloc h.size o
end Go.Proofs.YtaogofjnpnheeaaGreatDoor.Nu
namespace Go.Proofs.YtaogofjnpnheeaaGreatDoor.Base
open Go.ChangeShapes Go.WideShapes Go.ChangeAt Go.RowKit

theorem bcell {W w1 : World} (hb : Below W.heap.size W w1) : (∀ b o, b < W.heap.size → w1.cell? ⟨b, o, none⟩ = W.cell? ⟨b, o, none⟩) ∧ (∀ b o, b < W.heap.size → w1.frozen? ⟨b, o, none⟩ = W.frozen? ⟨b, o, none⟩) :=
  ⟨fun b o h => hb.cell (p := ⟨b, o, none⟩) h, fun b o h => hb.frozen (p := ⟨b, o, none⟩) h⟩
theorem u64_join (a b : Int) (i : Nat) (h0 : 0 ≤ a) (h1 : a < 18446744073709551616) (h2 : a % 2 ^ i = 0) (h3 : 0 ≤ b) (h4 : b < 2 ^ i) (h5 : b < 18446744073709551616) : bits .or .u64 a b = a + b := by
  rw [u64_or a b h0 h1 h3 h5, nat_join i a.toNat b.toNat]
  · omega
  · have : ((a.toNat % 2 ^ i : Nat) : Int) = 0 := by
      rw [Int.natCast_emod, Int.toNat_of_nonneg h0, Int.natCast_pow]; exact h2
    omega
  · have : ((b.toNat : Nat) : Int) < ((2 ^ i : Nat) : Int) := by rw [Int.toNat_of_nonneg h3, Int.natCast_pow]; exact h4
    omega
theorem u64_mask (a : Int) (i m : Nat) (hm : m = 2 ^ i - 1) (hi : i ≤ 63) (h0 : 0 ≤ a) (h1 : a < 18446744073709551616) : bits .and .u64 a (m : Int) = a % ((2 ^ i : Nat) : Int) := by
  subst hm
  have hp : 2 ^ i ≤ 2 ^ 63 := Nat.pow_le_pow_right (by omega) hi
  rw [u64_and a _ h0 h1 (by omega) (by omega), Int.toNat_natCast, Nat.and_two_pow_sub_one_eq_mod, Int.natCast_emod, Int.toNat_of_nonneg h0]
theorem ret_two {k : IntKind} {a b : Int} {v : Value} (h : a = b) : Ending.returned (.tuple #[.int k a, v]) = .returned (.tuple #[.int k b, v]) := by rw [h]
theorem ret_int {k : IntKind} {a b : Int} (h : a = b) : Ending.returned (.int k a) = .returned (.int k b) := by rw [h]
theorem ret_bool {a b : Bool} (h : a = b) : Ending.returned (.bool a) = .returned (.bool b) := by rw [h]
theorem below_drewN {B : Nat} {w w' : World} (h : Below B w w') (n : Nat) : Below B w (w'.drewN n) := ⟨h.os, h.tape, h.output, h.size, h.block⟩
theorem blk1 {B g : Nat} {w w1 : World} {t : TypeId} {a : Value} (hb : Below B w w1) (hg : g < B) (h : w.heap[g]? = some (.cells #[a] t)) :
    w1.cell? ⟨g, 0, none⟩ = some a ∧ w1.frozen? ⟨g, 0, none⟩ = false := by
  have h1 : w1.heap[g]? = some (.cells #[a] t) := (hb.block g hg).trans h
  simp [World.cell?, World.frozen?, h1]
theorem blk2 {B g : Nat} {w w1 : World} {t : TypeId} {a b : Value} (hb : Below B w w1) (hg : g < B) (h : w.heap[g]? = some (.cells #[a, b] t)) :
    (w1.cell? ⟨g, 0, none⟩ = some a ∧ w1.cell? ⟨g, 1, none⟩ = some b) ∧ (w1.frozen? ⟨g, 0, none⟩ = false ∧ w1.frozen? ⟨g, 1, none⟩ = false) := by
  have h1 : w1.heap[g]? = some (.cells #[a, b] t) := (hb.block g hg).trans h
  simp [World.cell?, World.frozen?, h1]
theorem blk3 {B g : Nat} {w w1 : World} {t : TypeId} {a b c : Value} (hb : Below B w w1) (hg : g < B) (h : w.heap[g]? = some (.cells #[a, b, c] t)) :
    (w1.cell? ⟨g, 0, none⟩ = some a ∧ w1.cell? ⟨g, 1, none⟩ = some b ∧ w1.cell? ⟨g, 2, none⟩ = some c) ∧
    (w1.frozen? ⟨g, 0, none⟩ = false ∧ w1.frozen? ⟨g, 1, none⟩ = false ∧ w1.frozen? ⟨g, 2, none⟩ = false) := by
  have h1 : w1.heap[g]? = some (.cells #[a, b, c] t) := (hb.block g hg).trans h
  simp [World.cell?, World.frozen?, h1]
theorem blk4 {B g : Nat} {w w1 : World} {t : TypeId} {a b c d : Value} (hb : Below B w w1) (hg : g < B) (h : w.heap[g]? = some (.cells #[a, b, c, d] t)) :
    (w1.cell? ⟨g, 0, none⟩ = some a ∧ w1.cell? ⟨g, 1, none⟩ = some b ∧ w1.cell? ⟨g, 2, none⟩ = some c ∧ w1.cell? ⟨g, 3, none⟩ = some d) ∧
    (w1.frozen? ⟨g, 0, none⟩ = false ∧ w1.frozen? ⟨g, 1, none⟩ = false ∧ w1.frozen? ⟨g, 2, none⟩ = false ∧ w1.frozen? ⟨g, 3, none⟩ = false) := by
  have h1 : w1.heap[g]? = some (.cells #[a, b, c, d] t) := (hb.block g hg).trans h
  simp [World.cell?, World.frozen?, h1]
theorem heap_alloc_at (w : World) (o : Obj) (g : Nat) (h : g = w.heap.size) : (w.alloc o).heap[g]? = some o := by
  subst h
  show (w.heap.push o)[w.heap.size]? = some o
  rw [Array.getElem?_push, if_pos rfl]
theorem heap_lt {w : World} {g : Nat} {o : Obj} (h : w.heap[g]? = some o) : g < w.heap.size := by
  rcases Nat.lt_or_ge g w.heap.size with h1 | h1
  · exact h1
  · rw [Array.getElem?_eq_none h1] at h; cases h
theorem heap_alloc_lt (w : World) (o o' : Obj) (g : Nat) (h : w.heap[g]? = some o') : (w.alloc o).heap[g]? = some o' := by
  rw [Below.heap_alloc _ _ _ (heap_lt h), h]
end Go.Proofs.YtaogofjnpnheeaaGreatDoor.Base
namespace Go.Proofs.YtaogofjnpnheeaaGreatDoor.Lst
open Go.ChangeShapes Go.WideShapes Go.ChangeAt Go.RowKit Base
/-- v is nil and xs is empty, or v's elements, which lie from block base on, are xs. -/
def Ints (base : Nat) (w : World) (v : Value) (xs : List Int) : Prop :=
  ((∃ p c, v = .slice p 0 c) ∧ xs = []) ∨ ∃ g o c, v = .slice (some ⟨g, o, none⟩) xs.length c ∧ base ≤ g ∧ g < w.heap.size ∧ xs.length ≤ 9223372036854775807 ∧ ∀ k, k < xs.length → w.cell? ⟨g, o + k, none⟩ = some (.int .i64 (xs.getD k 0))
theorem Ints.below {base : Nat} {w w1 : World} {v : Value} {xs : List Int} (h : Ints base w v xs) (hb : Below w.heap.size w w1) : Ints base w1 v xs := by
  rcases h with h | ⟨g, o, c, hv, h1, h2, h3, h4⟩
  · exact .inl h
  · exact .inr ⟨g, o, c, hv, h1, Nat.lt_of_lt_of_le h2 hb.size, h3, fun k hk => (hb.cell (p := ⟨g, o + k, none⟩) h2).trans (h4 k hk)⟩
theorem Ints.grown {base : Nat} {w w1 : World} {v : Value} {xs : List Int} {x : Nat} (h : Ints base w v xs) (hg : w.grownBy w1 (some x)) (hx : x < base) : Ints base w1 v xs := by
  rcases h with h | ⟨g, o, c, hv, h1, h2, h3, h4⟩
  · exact .inl h
  · refine .inr ⟨g, o, c, hv, h1, Nat.lt_of_lt_of_le h2 hg.size, h3, fun k hk => ?_⟩
    rw [World.cell?_of_block (w := w) (a := ⟨g, o + k, none⟩) (hg.block g h2 (fun e => by have := Option.some.inj e; omega))]
    exact h4 k hk
theorem Ints.mono {base base' : Nat} {w : World} {v : Value} {xs : List Int} (h : Ints base w v xs) (hb : base' ≤ base) : Ints base' w v xs := by
  rcases h with h | ⟨g, o, c, hv, h1, h2⟩
  · exact .inl h
  · exact .inr ⟨g, o, c, hv, Nat.le_trans hb h1, h2⟩
theorem Ints.open_ {base : Nat} {w : World} {v : Value} {xs : List Int} (h : Ints base w v xs) : ∃ p c, v = .slice p xs.length c ∧ xs.length ≤ 9223372036854775807 ∧ ∀ k, k < xs.length → ∃ g o, p = some ⟨g, o, none⟩ ∧ base ≤ g ∧ g < w.heap.size ∧ w.cell? ⟨g, o + k, none⟩ = some (.int .i64 (xs.getD k 0)) := by
  rcases h with ⟨⟨p, c, rfl⟩, rfl⟩ | ⟨g, o, c, hv, h1, h2, h3, h4⟩
  · exact ⟨p, c, rfl, by simp, fun k hk => by simp at hk⟩
  · exact ⟨_, c, hv, h3, fun k hk => ⟨g, o, rfl, h1, h2, h4 k hk⟩⟩
theorem Ints.nil {base : Nat} {w : World} : Ints base w (.slice none 0 0) [] := .inl ⟨⟨_, _, rfl⟩, rfl⟩
/-- A list that is typed out. -/
theorem lit_ints (zs : List Int) (w : World) (t : TypeId) (vs : Array Value) (hv : vs = (zs.map (Value.int .i64)).toArray) (hl : zs.length ≤ 65536) (m : Nat) (hm : m = zs.length) : Ints w.heap.size (w.alloc (.cells vs t)) (.slice (some ⟨w.heap.size, 0, none⟩) m m) zs := by
  subst hv hm
  refine .inr ⟨w.heap.size, 0, _, rfl, Nat.le_refl _, by simp, by omega, fun k hk => ?_⟩
  simp only [World.cell?, heap_alloc_at _ _ _ rfl, Nat.zero_add]
  simp [List.getD_eq_getElem?_getD, hk]
theorem int_info : (Tryz.prog.info? 3).map (fun i => (i.zero, i.size, i.bytes)) = some (some (.int .i64 0), 1, 8) := by kernel_rfl
theorem own_base {w : World} {base : Nat} {e : TypeId} {size n : Nat} {v : Value} {xs : List Value} (h : w.ownsRow base e size v n xs) : ∀ k, v.ownBlock = some k → base ≤ k := fun k hk => (h.lt k hk).1
/-- The slice v, which the call made itself from block B on, holds zs. -/
def OwnI (B : Nat) (w : World) (v : Value) (zs : List Int) : Prop := w.ownsRow B 3 1 v zs.length (zs.map (Value.int .i64))
theorem OwnI.nil (B : Nat) (w : World) : OwnI B w (.slice none 0 0) [] := World.ownsRow_nil _ _ _ _
theorem OwnI.ints {B : Nat} {w : World} {v : Value} {zs : List Int} (h : OwnI B w v zs) (hl : zs.length ≤ 9223372036854775807) : Ints 0 w v zs := by
  obtain ⟨_, h⟩ := h
  rcases h with ⟨hv, h0⟩ | ⟨g, cap, cur, hv, h1, h2, h3, h4, h5, h6⟩
  · exact .inl ⟨⟨_, _, hv⟩, List.length_eq_zero_iff.1 h0⟩
  · refine .inr ⟨g, 0, cap, hv, Nat.zero_le _, heap_lt h2, hl, fun k hk => ?_⟩
    have hc : cur[k]? = some (.int .i64 (zs.getD k 0)) := by
      have : (cur.toList.take (zs.length * 1))[k]? = (zs.map (Value.int .i64))[k]? := by rw [h6]
      rw [List.getElem?_take, if_pos (by omega)] at this
      rw [← Array.getElem?_toList, this, List.getElem?_map, List.getElem?_eq_getElem hk, List.getD_eq_getElem?_getD, List.getElem?_eq_getElem hk]
      rfl
    simp [World.cell?, h2, hc]
/-- A number is put behind a slice of the call's own. -/
theorem append_int {ops : Array Oper} {rest : List Oper} {o : Oper} {a : Act} {Q : Exit → Act → World → Prop} (hgd : o.guard = none) (s x : Operand)
    (ho : o.op = .call { callee := .builtin .append, args := #[s, x], argTypes := #[36, 36] }) {w0 w : World} {v : Value} {zs : List Int} {z : Int}
    (hb : Below w0.heap.size w0 w) (hown : OwnI w0.heap.size w v zs) (hs : a.eval s = v) (hx : a.eval x = .slice (some ⟨w.heap.size, 0, none⟩) 1 1) (hl : zs.length ≤ 1000000)
    (h : ∀ v' w', OwnI w0.heap.size w' v' (zs ++ [z]) → Below w0.heap.size w0 w' → wpList Tryz.prog ops Q rest (a.put o.dst v') w') : wpList Tryz.prog ops Q (o :: rest) a (w.alloc (.cells #[.int .i64 z] 3)) := by
  obtain ⟨i0, hi, hz0, hz1, hz2⟩ := info_parts int_info
  have hz := hb.size
  refine wpList_append_own _ hgd s x 36 ho w0.heap.size 3 i0 (.int .i64 0) 1 8 Tryz.underlying36 hi hz0 hz1 hz2 rfl (by decide) v zs.length (zs.map (Value.int .i64)) hs (hown.alloc _) ⟨w.heap.size, 0, none⟩ 1 1 [.int .i64 z] hx rfl ?_ ?_ (by simp only [maxLen]; omega) (by omega) (by simp; omega) ?_
  · intro t u hu
    match t, hu with
    | 0, hu => simp at hu; subst hu; simp [Addr.add]
  · intro u hu; simp at hu; subst hu; rfl
  · intro v' w' hown' hg _
    refine h v' w' ?_ ((hb.alloc hz _).grown hg (by simp; omega) (own_base hown))
    unfold OwnI
    rw [List.length_append, List.map_append]
    exact hown'
/-- What a call that tells a new list leaves. -/
def ListNew (xs : List Int) (w : World) (e : Ending) (w' : World) : Prop := (∃ v, e = .returned v ∧ Ints 0 w' v xs) ∧ Below w.heap.size w w'
theorem cellsInt : Tryz.prog.cellsOf 3 = 1 := by kernel_rfl
section
variable {H : Type} {enc : TypeId × Value → H} {w : World}
set_option maxRecDepth 100000 in
theorem open_list {r : Reach} {b0 : Nat} {v : Value} {d : DataW H} {p : List MemPlace} (hv : Value.okWide Tryz.prog w r b0 36 v) (h : DataW.Trod enc Tryz.prog w 0 (fun _ => true) true 36 v d p) : ∃ zs, (∃ p c, v = .slice p zs.length c ∧ zs.length ≤ c) ∧ Ints 0 w v zs ∧ ∀ x ∈ zs, -9223372036854775808 ≤ x ∧ x ≤ 9223372036854775807 := by
  obtain ⟨a0, len, cap, rfl⟩ := okWide_slice Tryz.underlying36 hv
  obtain ⟨fuel, hf⟩ := h
  rcases open_ints Tryz.underlying36 Tryz.underlying3 cellsInt hf with ⟨hcs, _⟩ | ⟨a, len', cap', zs, hcs, _, hl, hm, hz, _, hcell, hwf⟩
  · simp [Value.cells] at hcs
    obtain ⟨rfl, rfl, rfl⟩ := hcs
    exact ⟨[], ⟨_, _, rfl, by simp⟩, .inl ⟨⟨_, _, rfl⟩, rfl⟩, fun x hx => by cases hx⟩
  · simp [Value.cells] at hcs
    obtain ⟨rfl, rfl, rfl⟩ := hcs
    simp only [if_true] at hz
    by_cases h0 : len = 0
    · subst h0
      exact ⟨[], ⟨_, _, rfl, by simp⟩, .inl ⟨⟨_, _, rfl⟩, rfl⟩, fun x hx => by cases hx⟩
    · obtain ⟨b, off, spot⟩ := a
      have hspot : spot = none := by simpa [Addr.add] using World.cell?_spot (hcell 0 (by omega))
      subst hspot
      have cj : ∀ j, j < zs.length → w.cell? ⟨b, off + j, none⟩ = some (.int .i64 (zs.getD j 0)) := fun j hj => by rw [← add_plain]; exact hcell j hj
      have hlt : b < w.heap.size := by
        rcases Nat.lt_or_ge b w.heap.size with h1 | h1
        · exact h1
        · have := cj 0 (by omega)
          simp [World.cell?, Array.getElem?_eq_none h1] at this
      have hlen : (zs.take len).length = len := by rw [List.length_take]; omega
      refine ⟨zs.take len, ⟨_, _, by rw [hlen], by rw [hlen]; omega⟩, .inr ⟨b, off, cap, by rw [hlen], Nat.zero_le _, hlt, by rw [hlen]; simp only [maxLen] at hm; omega, fun k hk => ?_⟩, fun x hx => bounds_i64 (hwf x (List.mem_of_mem_take hx))⟩
      rw [hlen] at hk
      rw [cj k (by omega)]
      simp [List.getD_eq_getElem?_getD, hk]
end
/-- A part of a list that lies in memory lies there. -/
theorem Ints.part {base : Nat} {W : World} {p : Option Addr} {n c : Nat} {xs : List Int} (h : Ints base W (.slice p n c) xs) (lo hi : Nat) (h1 : lo ≤ hi) (h2 : hi ≤ n) (h3 : n ≤ c) : Ints base W (sliced p lo hi c 1) ((xs.drop lo).take (hi - lo)) := by
  by_cases he : lo = hi
  · refine .inl ⟨?_, by subst he; simp⟩
    unfold sliced
    subst he
    cases p
    · exact ⟨_, _, by simp; exact ⟨rfl, rfl⟩⟩
    · exact ⟨_, _, by simp; exact ⟨rfl, rfl⟩⟩
  · rcases h with ⟨⟨p', c', hv⟩, rfl⟩ | ⟨g, o, c', hv, a1, a2, a3, a4⟩
    · have : n = 0 := by injection hv
      omega
    · injection hv with e1 e2 e3
      subst e1 e2 e3
      have hl : ((xs.drop lo).take (hi - lo)).length = hi - lo := by rw [List.length_take, List.length_drop]; omega
      refine .inr ⟨g, o + lo, c - lo, ?_, a1, a2, by omega, fun k hk => ?_⟩
      · rw [hl]
        unfold sliced
        have h9 : ¬ c = lo := by omega
        by_cases h0 : lo = 0
        · subst h0; simp [h9, Addr.add]
        · simp [h9, h0, Addr.add]
      · rw [hl] at hk
        rw [Nat.add_assoc, a4 (lo + k) (by omega)]
        have e : ((xs.drop lo).take (hi - lo)).getD k 0 = xs.getD (lo + k) 0 := by
          rw [List.getD_eq_getElem?_getD, List.getD_eq_getElem?_getD, List.getElem?_take, if_pos hk, List.getElem?_drop]
        rw [e]
theorem sizeInt (w : World) : (sizeOf 3).run Tryz.prog w = .ok 1 w := by kernel_rfl
theorem elemInts : Tryz.prog.underlying 36 = some (.slice (Tryz.prog.elem 36)) := by kernel_rfl
theorem elemInts' : Tryz.prog.elem 36 = 3 := by kernel_rfl
theorem Ints.slice_lh {base : Nat} {W : World} {p : Option Addr} {n c : Nat} {xs : List Int} (h : Ints base W (.slice p n c) xs) (lo hi : Nat) (h1 : lo ≤ hi) (h2 : hi ≤ n) (h3 : n ≤ c) :
    ∃ v, (∀ w, (Instr.sliceAt 36 (.slice p n c) (some (.int .i64 (lo : Int))) (some (.int .i64 (hi : Int))) none).run Tryz.prog w = .ok v w) ∧ Ints base W v ((xs.drop lo).take (hi - lo)) :=
  ⟨_, fun w => by rw [run_sliceAt_slice _ _ _ _ _ _ elemInts, run_slice_lh w _ _ _ _ elemInts _ _ _ _ (by omega) (by omega) (by omega), elemInts', sizeInt]; rfl, by simpa using h.part lo hi h1 h2 h3⟩
theorem Ints.slice_h {base : Nat} {W : World} {p : Option Addr} {n c : Nat} {xs : List Int} (h : Ints base W (.slice p n c) xs) (hi : Nat) (h2 : hi ≤ n) (h3 : n ≤ c) :
    ∃ v, (∀ w, (Instr.sliceAt 36 (.slice p n c) none (some (.int .i64 (hi : Int))) none).run Tryz.prog w = .ok v w) ∧ Ints base W v (xs.take hi) :=
  ⟨_, fun w => by rw [run_sliceAt_slice _ _ _ _ _ _ elemInts, run_slice_h w _ _ _ _ elemInts _ _ (by omega) (by omega), elemInts', sizeInt]; rfl, by simpa using h.part 0 hi (Nat.zero_le _) h2 h3⟩
theorem Ints.slice_l {base : Nat} {W : World} {p : Option Addr} {n c : Nat} {xs : List Int} (h : Ints base W (.slice p n c) xs) (hn : xs.length = n) (lo : Nat) (h2 : lo ≤ n) (h3 : n ≤ c) :
    ∃ v, (∀ w, (Instr.sliceAt 36 (.slice p n c) (some (.int .i64 (lo : Int))) none none).run Tryz.prog w = .ok v w) ∧ Ints base W v (xs.drop lo) :=
  ⟨_, fun w => by rw [run_sliceAt_slice _ _ _ _ _ _ elemInts, run_slice_l w _ _ _ _ elemInts _ _ (by omega) (by omega), elemInts', sizeInt]; rfl, by
    have := h.part lo n h2 (Nat.le_refl _) h3
    rw [List.take_of_length_le (by rw [List.length_drop]; omega)] at this
    simpa using this⟩
end Go.Proofs.YtaogofjnpnheeaaGreatDoor.Lst
namespace Go.Proofs.YtaogofjnpnheeaaGreatDoor.Nu
open Go.ChangeShapes Go.WideShapes Go.ChangeAt Go.RowKit Go.Lib Lst
theorem digs_le : ∀ k u : Nat, u < 10 ^ (k + 1) → nDigits u ≤ k + 1
  | 0, u, h => by rw [nDigits_small (by simpa using h)]; omega
  | k + 1, u, h => by
    by_cases h1 : u < 10
    · rw [nDigits_small h1]; omega
    · rw [nDigits_big h1]
      have := digs_le k (u / 10) (by rw [Nat.pow_succ] at h; omega)
      omega
theorem itoa_len {n : Int} (h0 : -9223372036854775808 ≤ n) (h1 : n ≤ 9223372036854775807) : (itoa n).length ≤ 20 := by
  unfold itoa
  split
  · rw [List.length_cons, decDigits_length]
    have := digs_le 18 n.natAbs (by have : (10 : Nat) ^ (18 + 1) = 10000000000000000000 := by decide
                                    omega)
    omega
  · rw [decDigits_length]
    have := digs_le 18 n.toNat (by have : (10 : Nat) ^ (18 + 1) = 10000000000000000000 := by decide
                                   omega)
    omega
end Go.Proofs.YtaogofjnpnheeaaGreatDoor.Nu
namespace Go.Proofs.YtaogofjnpnheeaaGreatDoor.Pk
open Go.ChangeShapes Go.WideShapes Go.ChangeAt Go.RowKit Base
def vR (t y n : Int) : Bool := decide ((t = 0 ∧ n = 0 ∨ 1 ≤ t ∧ t ≤ 1048575 ∧ 1 ≤ n ∧ n ≤ 4095) ∧ 1 ≤ y ∧ y ≤ 1048575)
theorem vR_iff {t y n : Int} : vR t y n = true ↔ ((t = 0 ∧ n = 0 ∨ 1 ≤ t ∧ t ≤ 1048575 ∧ 1 ≤ n ∧ n ≤ 4095) ∧ 1 ≤ y ∧ y ≤ 1048575) := by simp [vR]
theorem vR_false {t y n : Int} (h : ¬ ((t = 0 ∧ n = 0 ∨ 1 ≤ t ∧ t ≤ 1048575 ∧ 1 ≤ n ∧ n ≤ 4095) ∧ 1 ≤ y ∧ y ≤ 1048575)) : vR t y n = false := by simp only [vR, decide_eq_false_iff_not]; exact h
def vNum (t y n : Int) : Int := (t * 1048576 + y) * 4096 + n
set_option maxHeartbeats 2000000 in
theorem versionRight_any (t y n : Int) (w : World) : Calls Tryz.prog 38 #[.agg #[.int .i64 t, .int .i64 y, .int .i64 n]] w fun e w' => e = .returned (.bool (vR t y n)) ∧ Below w.heap.size w w' := by
  by_cases ht : t = 0
  · subst ht
    by_cases hn : n = 0
    · subst hn
      by_cases y1 : 1 ≤ y
      case neg =>
        rw [vR_false (by omega)]
        go_enter Tryz.func38, Tryz.ntmps38
        go_wp2
        go_ret
        exact ⟨rfl, by go_grown⟩
      by_cases y2 : y ≤ 1048575
      case neg =>
        rw [vR_false (by omega)]
        go_enter Tryz.func38, Tryz.ntmps38
        go_wp2
        go_ret
        exact ⟨rfl, by go_grown⟩
      rw [vR_iff.2 (by omega)]
      go_enter Tryz.func38, Tryz.ntmps38
      go_wp2
      go_ret
      exact ⟨rfl, by go_grown⟩
    · have hb : (n != 0) = true := by rw [bne_iff_ne]; exact hn
      rw [vR_false (by omega)]
      go_enter Tryz.func38, Tryz.ntmps38
      go_wp2
      go_ret
      exact ⟨rfl, by go_grown⟩
  have hb : (t != 0) = true := by rw [bne_iff_ne]; exact ht
  have hb' : (t == 0) = false := by rw [beq_eq_false_iff_ne]; exact ht
  by_cases n1 : 1 ≤ n
  case neg =>
    rw [vR_false (by omega)]
    go_enter Tryz.func38, Tryz.ntmps38
    go_wp2
    go_ret
    exact ⟨rfl, by go_grown⟩
  by_cases n2 : n ≤ 4095
  case neg =>
    rw [vR_false (by omega)]
    go_enter Tryz.func38, Tryz.ntmps38
    go_wp2
    go_ret
    exact ⟨rfl, by go_grown⟩
  by_cases t1 : 0 ≤ t
  case neg =>
    rw [vR_false (by omega)]
    go_enter Tryz.func38, Tryz.ntmps38
    go_wp2
    go_ret
    exact ⟨rfl, by go_grown⟩
  by_cases t2 : t ≤ 1048575
  case neg =>
    rw [vR_false (by omega)]
    go_enter Tryz.func38, Tryz.ntmps38
    go_wp2
    go_ret
    exact ⟨rfl, by go_grown⟩
  by_cases y1 : 1 ≤ y
  case neg =>
    rw [vR_false (by omega)]
    go_enter Tryz.func38, Tryz.ntmps38
    go_wp2
    go_ret
    exact ⟨rfl, by go_grown⟩
  by_cases y2 : y ≤ 1048575
  case neg =>
    rw [vR_false (by omega)]
    go_enter Tryz.func38, Tryz.ntmps38
    go_wp2
    go_ret
    exact ⟨rfl, by go_grown⟩
  rw [vR_iff.2 (by omega)]
  go_enter Tryz.func38, Tryz.ntmps38
  go_wp2
  go_ret
  exact ⟨rfl, by go_grown⟩
theorem version_bits (t y n : Int) (t1 : 0 ≤ t) (t2 : t ≤ 1048575) (y1 : 1 ≤ y) (y2 : y ≤ 1048575) (n1 : 0 ≤ n) (n2 : n ≤ 4095) :
    bits BinOp.or IntKind.u64 (bits BinOp.or IntKind.u64 (t * 4294967296) (y * 4096)) n = vNum t y n := by
  rw [u64_join (t * 4294967296) (y * 4096) 32 (by omega) (by omega) (by omega) (by omega) (by omega) (by omega)]
  rw [u64_join _ n 12 (by omega) (by omega) (by omega) (by omega) (by omega) (by omega)]
  unfold vNum
  omega
set_option maxHeartbeats 1000000 in
theorem version_ok (t y n : Int) (w : World) (hR : vR t y n = true) :
    Calls Tryz.prog 28 #[.agg #[.int .i64 t, .int .i64 y, .int .i64 n]] w fun e w' => e = .returned (.tuple #[.int .u64 (vNum t y n), .int .i64 0]) ∧ Below w.heap.size w w' := by
  have h := vR_iff.1 hR
  have t1 : 0 ≤ t := by omega
  have t2 : t ≤ 1048575 := by omega
  have y1 : 1 ≤ y := by omega
  have y2 : y ≤ 1048575 := by omega
  have n1 : 0 ≤ n := by omega
  have n2 : n ≤ 4095 := by omega
  clear h
  go_enter Tryz.func28, Tryz.ntmps28
  go_wp2_with fail
  refine (versionRight_any _ _ _ _).mono ?_
  rw [hR]
  rintro e w1 ⟨rfl, hb⟩
  obtain ⟨⟨c0, c1, c2⟩, _⟩ := blk3 hb (g := w.heap.size) (by simp) (heap_alloc_at _ _ _ rfl)
  clear hR
  go_wp2
  go_ret2
  exact ⟨ret_two (version_bits t y n t1 t2 y1 y2 n1 n2), ((Below.refl _ _).alloc (Nat.le_refl _) _).trans (hb.mono (by simp))⟩
set_option maxHeartbeats 1000000 in
theorem version_bad (t y n : Int) (w : World) (hR : vR t y n = false) :
    Calls Tryz.prog 28 #[.agg #[.int .i64 t, .int .i64 y, .int .i64 n]] w fun e w' => e = .returned (.tuple #[.int .u64 0, .int .i64 1]) ∧ Below w.heap.size w w' := by
  go_enter Tryz.func28, Tryz.ntmps28
  go_wp2_with fail
  refine (versionRight_any _ _ _ _).mono ?_
  rw [hR]
  rintro e w1 ⟨rfl, hb⟩
  go_wp2
  go_ret2
  exact ⟨rfl, ((Below.refl _ _).alloc (Nat.le_refl _) _).trans (hb.mono (by simp))⟩
end Go.Proofs.YtaogofjnpnheeaaGreatDoor.Pk
namespace Go.Proofs.YtaogofjnpnheeaaGreatDoor.F
open Go.ChangeShapes Go.WideShapes Go.ChangeAt Go.RowKit Base
section
open Go.Deep
variable {H : Type} {enc : TypeId × Value → H} {P : Program} {w : World}
/-- Is each cell of a type an int of 64 bits? (Structs in structs, too.) -/
def flatB (P : Program) : Nat → TypeId → Bool
  | 0, _ => false
  | n + 1, t => match P.underlying t with
    | some (.int k) => decide (k = .i64) && decide (P.cellsOf t = 1)
    | some (.struct fs) => fs.all (fun f => flatB P n f.type) && (List.range (P.cellsOf t)).all fun i => fs.any fun f => decide (f.offset ≤ i ∧ i < f.offset + P.cellsOf f.type)
    | _ => false
/-- An int of 64 bits. -/
def is64 (z : Int) : Prop := -9223372036854775808 ≤ z ∧ z ≤ 9223372036854775807
theorem flat_cells : ∀ (n : Nat) (t : TypeId), flatB P n t = true → ∀ (base : Nat) (spare : Nat → Bool) (held : Bool) (fuel : Nat) (cs : List Value) (x : DataW H × List MemPlace), DataW.trod enc P w base spare held fuel t cs = some x → ∀ i, i < P.cellsOf t → ∃ z, cs[i]? = some (.int .i64 z) ∧ is64 z
  | 0, _, h => by simp [flatB] at h
  | n + 1, t, h => by
    intro base spare held fuel cs x hx i hi
    unfold flatB at h
    split at h
    · next k hk =>
      rw [Bool.and_eq_true] at h
      have e1 := of_decide_eq_true h.1
      have e2 := of_decide_eq_true h.2
      subst e1
      obtain ⟨z, rfl, _, hw⟩ := DataW.trod_int hk hx
      have : i = 0 := by omega
      subst this
      exact ⟨z, rfl, bounds_i64 hw⟩
    · next fs hs =>
      rw [Bool.and_eq_true] at h
      obtain ⟨h1, h2⟩ := h
      obtain ⟨xs, n', _, _, hcl, hxl, hg⟩ := DataW.trod_struct hs hx
      have h3 := List.all_eq_true.1 h2 i (List.mem_range.2 hi)
      rw [Array.any_eq_true] at h3
      obtain ⟨j, hj, h3⟩ := h3
      have h4 := of_decide_eq_true h3
      have h5 := hg j fs[j] (Array.getElem?_eq_getElem hj)
      rw [List.getElem?_eq_getElem (by omega)] at h5
      have h6 : flatB P n fs[j].type = true := by
        rw [Array.all_eq_true] at h1
        exact h1 j hj
      obtain ⟨z, hz, hb⟩ := flat_cells n _ h6 _ _ _ _ _ _ h5 (i - fs[j].offset) (by omega)
      refine ⟨z, ?_, hb⟩
      rw [List.getElem?_take, if_pos (by omega), List.getElem?_drop] at hz
      rw [← hz]
      congr 1
      omega
    · cases h
/-- A slice of such structs. -/
theorem open_flat {r : Reach} {b0 n : Nat} {t e : TypeId} {v : Value} {d : DataW H} {p : List MemPlace} (ht : P.underlying t = some (.slice e)) (hf : flatB P n e = true) (hpos : 0 < P.cellsOf e) (hv : Value.okWide P w r b0 t v) (h : DataW.Trod enc P w 0 (fun _ => true) true t v d p) :
    ∃ (q : Option Addr) (len cap : Nat) (G : Nat → Nat → Int), v = .slice q len cap ∧ (q = none → cap = 0) ∧ len ≤ cap ∧ len ≤ 9223372036854775807 ∧ (∀ k j, is64 (G k j)) ∧ ∀ k, k < len → ∃ g o, q = some ⟨g, o, none⟩ ∧ g < w.heap.size ∧ ∀ j, j < P.cellsOf e → w.cell? ⟨g, o + k * P.cellsOf e + j, none⟩ = some (.int .i64 (G k j)) := by
  obtain ⟨a0, len, cap, rfl⟩ := okWide_slice ht hv
  obtain ⟨fuel, hfu⟩ := h
  rcases open_slice ht hfu with ⟨hcs, _⟩ | ⟨a, len', cap', m, n', D, Pl, hcs, _, hl, hm, hmm, _, hel⟩
  · simp [Value.cells] at hcs
    obtain ⟨rfl, rfl, rfl⟩ := hcs
    exact ⟨none, 0, 0, fun _ _ => 0, rfl, fun _ => rfl, by omega, by omega, fun _ _ => (show is64 0 from ⟨by decide, by decide⟩), fun k hk => absurd hk (by omega)⟩
  · simp [Value.cells] at hcs
    obtain ⟨rfl, rfl, rfl⟩ := hcs
    simp only [if_true] at hmm
    have key : ∀ k, ∀ j, ∃ z : Int, is64 z ∧ (k < len → j < P.cellsOf e → w.cell? ((a.add (k * P.cellsOf e)).add j) = some (.int .i64 z)) := fun k j => by
      by_cases hk : k < len ∧ j < P.cellsOf e
      · obtain ⟨cs', hc, ht'⟩ := hel k (by omega)
        obtain ⟨_, hcl, hat⟩ := World.cells?_some hc
        obtain ⟨z, hz, hb⟩ := flat_cells n e hf _ _ _ _ _ _ ht' j hk.2
        exact ⟨z, hb, fun _ _ => (hat j hk.2).trans hz⟩
      · exact ⟨0, ⟨by decide, by decide⟩, fun h1 h2 => absurd ⟨h1, h2⟩ hk⟩
    have hG : ∃ G : Nat → Nat → Int, ∀ k j, is64 (G k j) ∧ (k < len → j < P.cellsOf e → w.cell? ((a.add (k * P.cellsOf e)).add j) = some (.int .i64 (G k j))) := by
      obtain ⟨G, hG⟩ := Classical.axiomOfChoice fun k => Classical.axiomOfChoice (key k)
      exact ⟨G, hG⟩
    obtain ⟨G, hG⟩ := hG
    refine ⟨some a, len, cap, G, rfl, (fun e => by cases e), hl, by simp only [maxLen] at hm; omega, fun k j => (hG k j).1, fun k hk => ?_⟩
    obtain ⟨b, off, spot⟩ := a
    have h0 := (hG k 0).2 hk hpos
    have hspot : spot = none := by
      have h9 := World.cell?_spot ((hG 0 0).2 (by omega) hpos)
      simpa [Addr.add] using h9
    subst hspot
    refine ⟨b, off, rfl, ?_, fun j hj => ?_⟩
    · rw [add_plain, add_plain] at h0
      exact World.block_lt_of_cell? w _ h0
    · have := (hG k j).2 hk hj
      rwa [add_plain, add_plain] at this
/-- Such a struct by value. -/
theorem open_flat1 {r : Reach} {b0 n : Nat} {t : TypeId} {v : Value} {d : DataW H} {p : List MemPlace} {base : Nat} {spare : Nat → Bool} {held : Bool} {fs : Array Field} (hs : P.underlying t = some (.struct fs)) (hf : flatB P n t = true) (hv : Value.okWide P w r b0 t v) (h : DataW.Trod enc P w base spare held t v d p) :
    ∃ G : Nat → Int, (∀ j, is64 (G j)) ∧ v = .agg (((List.range (P.cellsOf t)).map fun j => Value.int .i64 (G j)).toArray) := by
  obtain ⟨cs, rfl, hsz⟩ := okWide_struct hs hv
  obtain ⟨fuel, hfu⟩ := h
  have key : ∀ j, ∃ z : Int, is64 z ∧ (j < P.cellsOf t → cs[j]? = some (.int .i64 z)) := fun j => by
    by_cases hj : j < P.cellsOf t
    · obtain ⟨z, hz, hb⟩ := flat_cells n t hf _ _ _ _ _ _ hfu j hj
      exact ⟨z, hb, fun _ => by simpa [Value.cells] using hz⟩
    · exact ⟨0, ⟨by decide, by decide⟩, fun h => absurd h hj⟩
  obtain ⟨G, hG⟩ := Classical.axiomOfChoice key
  refine ⟨G, fun j => (hG j).1, ?_⟩
  congr 1
  apply Array.ext_getElem?
  intro j
  by_cases hj : j < P.cellsOf t
  · rw [(hG j).2 hj]
    simp [hj]
  · rw [Array.getElem?_eq_none (by rw [hsz]; omega), Array.getElem?_eq_none (by simp; omega)]
end
end Go.Proofs.YtaogofjnpnheeaaGreatDoor.F
namespace Go.Proofs.YtaogofjnpnheeaaGreatDoor.F
open Go.ChangeShapes Go.WideShapes Go.ChangeAt Go.RowKit Base
section
open Go.Deep
variable {H : Type} {enc : TypeId × Value → H} {P : Program} {w : World}
/-- A slice of structs that came in, each field of one cell: where its fields lie, and that each reads. -/
theorem open_structs {r : Reach} {b0 : Nat} {t e : TypeId} {fs : Array Field} {v : Value} {d : DataW H} {p : List MemPlace} (ht : P.underlying t = some (.slice e)) (he : P.underlying e = some (.struct fs)) (hone : oneCellFields P fs = true)
    (hC : P.cellsOf e = fs.size) (hpos : 0 < fs.size) (hv : Value.okWide P w r b0 t v) (h : DataW.Trod enc P w 0 (fun _ => true) true t v d p) :
    ∃ (a0 : Option Addr) (len cap : Nat), v = .slice a0 len cap ∧ len ≤ 9223372036854775807 ∧ ∀ i, i < len → ∃ g o, a0 = some ⟨g, o, none⟩ ∧ g < w.heap.size ∧
      ∀ (j : Nat) (f : Field), fs[j]? = some f → ∃ (u : Value) (y : DataW H × List MemPlace) (n : Nat), w.cell? ⟨g, o + i * fs.size + j, none⟩ = some u ∧ DataW.trod enc P w 0 (fun _ => true) true n f.type [u] = some y := by
  obtain ⟨a0, len, cap, rfl⟩ := okWide_slice ht hv
  obtain ⟨fuel, hf⟩ := h
  refine ⟨a0, len, cap, rfl, ?_⟩
  rcases open_slice ht hf with ⟨hcs, _⟩ | ⟨a, len', cap', m, n, D, Pl, hcs, _, hl, hm, hmm, _, hel⟩
  · simp [Value.cells] at hcs
    obtain ⟨rfl, rfl, rfl⟩ := hcs
    exact ⟨by omega, fun i hi => absurd hi (by omega)⟩
  · simp [Value.cells] at hcs
    obtain ⟨rfl, rfl, rfl⟩ := hcs
    simp only [if_true] at hmm
    refine ⟨by simp only [maxLen] at hm; omega, fun i hi => ?_⟩
    obtain ⟨cs', hc, ht'⟩ := hel i (by omega)
    obtain ⟨_, hcl, hat⟩ := World.cells?_some hc
    obtain ⟨xs, n', _, _, _, hxl, hg⟩ := DataW.trod_struct he ht'
    rw [hC] at hcl hat
    have hcell : ∀ j, j < fs.size → ∃ u, cs'[j]? = some u ∧ w.cell? ((a.add (i * fs.size)).add j) = some u := fun j hj => by
      have h1 : cs'[j]? = some (cs'[j]'(by omega)) := List.getElem?_eq_getElem (by omega)
      exact ⟨_, h1, (hat j hj).trans h1⟩
    obtain ⟨b, off, spot⟩ := a
    have hspot : spot = none := by
      obtain ⟨cs0, hc0, _⟩ := hel 0 (by omega)
      obtain ⟨_, hcl0, hat0⟩ := World.cells?_some hc0
      rw [hC] at hcl0 hat0
      have hu := (hat0 0 hpos).trans (List.getElem?_eq_getElem (by omega))
      simpa [Addr.add] using World.cell?_spot hu
    subst hspot
    have hadd : ∀ j, (Addr.add (Addr.add ⟨b, off, none⟩ (i * fs.size)) j) = ⟨b, off + i * fs.size + j, none⟩ := fun j => by rw [add_plain, add_plain]
    refine ⟨b, off, rfl, ?_, fun j f hj => ?_⟩
    · obtain ⟨u, _, hu⟩ := hcell 0 hpos
      rw [hadd] at hu
      exact World.block_lt_of_cell? w _ hu
    · have hjl : j < fs.size := (Array.getElem?_eq_some_iff.1 hj).1
      obtain ⟨u, hu, hcu⟩ := hcell j hjl
      obtain ⟨ho, hk⟩ := hone_of hone j f hj
      have h1 := hg j f hj
      have h2 : (cs'.drop j).take 1 = [u] := by
        obtain ⟨hlt, hh⟩ := List.getElem?_eq_some_iff.1 hu
        rw [List.drop_eq_getElem_cons hlt, hh]; rfl
      rw [ho, hk, h2, List.getElem?_eq_getElem (by omega)] at h1
      rw [hadd] at hcu
      exact ⟨u, _, n', hcu, h1⟩
end
end Go.Proofs.YtaogofjnpnheeaaGreatDoor.F
namespace Go.Proofs.YtaogofjnpnheeaaGreatDoor.F
open Go.ChangeShapes Go.WideShapes Go.ChangeAt Go.RowKit Base
section
open Go.Deep
variable {H : Type} {enc : TypeId × Value → H} {P : Program} {w : World}
/-- A slice of structs that came in, each field of one cell: where its fields lie, and that each reads; out of its one cell. -/
theorem open_structs2 {t e : TypeId} {fs : Array Field} {u : Value} {n : Nat} {y : DataW H × List MemPlace} (ht : P.underlying t = some (.slice e)) (he : P.underlying e = some (.struct fs)) (hone : oneCellFields P fs = true)
    (hC : P.cellsOf e = fs.size) (hpos : 0 < fs.size) (h : DataW.trod enc P w 0 (fun _ => true) true n t [u] = some y) :
    ∃ (a0 : Option Addr) (len cap : Nat), u = .slice a0 len cap ∧ (a0 = none → cap = 0) ∧ len ≤ cap ∧ len ≤ 9223372036854775807 ∧ ∀ i, i < len → ∃ g o, a0 = some ⟨g, o, none⟩ ∧ g < w.heap.size ∧
      ∀ (j : Nat) (f : Field), fs[j]? = some f → ∃ (u : Value) (y : DataW H × List MemPlace) (n : Nat), w.cell? ⟨g, o + i * fs.size + j, none⟩ = some u ∧ DataW.trod enc P w 0 (fun _ => true) true n f.type [u] = some y := by
  rcases open_slice ht h with ⟨hcs, _⟩ | ⟨a, len, cap, m, n, D, Pl, hcs, _, hl, hm, hmm, _, hel⟩
  · obtain rfl := (List.cons.inj hcs).1
    exact ⟨none, 0, 0, rfl, fun _ => rfl, by omega, by omega, fun i hi => absurd hi (by omega)⟩
  · obtain rfl := (List.cons.inj hcs).1
    simp only [if_true] at hmm
    refine ⟨some a, len, cap, rfl, (fun e => by cases e), hl, by simp only [maxLen] at hm; omega, fun i hi => ?_⟩
    obtain ⟨cs', hc, ht'⟩ := hel i (by omega)
    obtain ⟨_, hcl, hat⟩ := World.cells?_some hc
    obtain ⟨xs, n', _, _, _, hxl, hg⟩ := DataW.trod_struct he ht'
    rw [hC] at hcl hat
    have hcell : ∀ j, j < fs.size → ∃ u, cs'[j]? = some u ∧ w.cell? ((a.add (i * fs.size)).add j) = some u := fun j hj => by
      have h1 : cs'[j]? = some (cs'[j]'(by omega)) := List.getElem?_eq_getElem (by omega)
      exact ⟨_, h1, (hat j hj).trans h1⟩
    obtain ⟨b, off, spot⟩ := a
    have hspot : spot = none := by
      obtain ⟨cs0, hc0, _⟩ := hel 0 (by omega)
      obtain ⟨_, hcl0, hat0⟩ := World.cells?_some hc0
      rw [hC] at hcl0 hat0
      have hu := (hat0 0 hpos).trans (List.getElem?_eq_getElem (by omega))
      simpa [Addr.add] using World.cell?_spot hu
    subst hspot
    have hadd : ∀ j, (Addr.add (Addr.add ⟨b, off, none⟩ (i * fs.size)) j) = ⟨b, off + i * fs.size + j, none⟩ := fun j => by rw [add_plain, add_plain]
    refine ⟨b, off, rfl, ?_, fun j f hj => ?_⟩
    · obtain ⟨u, _, hu⟩ := hcell 0 hpos
      rw [hadd] at hu
      exact World.block_lt_of_cell? w _ hu
    · have hjl : j < fs.size := (Array.getElem?_eq_some_iff.1 hj).1
      obtain ⟨u, hu, hcu⟩ := hcell j hjl
      obtain ⟨ho, hk⟩ := hone_of hone j f hj
      have h1 := hg j f hj
      have h2 : (cs'.drop j).take 1 = [u] := by
        obtain ⟨hlt, hh⟩ := List.getElem?_eq_some_iff.1 hu
        rw [List.drop_eq_getElem_cons hlt, hh]; rfl
      rw [ho, hk, h2, List.getElem?_eq_getElem (by omega)] at h1
      rw [hadd] at hcu
      exact ⟨u, _, n', hcu, h1⟩
end
end Go.Proofs.YtaogofjnpnheeaaGreatDoor.F
namespace Go.Proofs.YtaogofjnpnheeaaGreatDoor.F
open Go.ChangeShapes Go.WideShapes Go.ChangeAt Go.RowKit Base
/-- A value of the struct. -/
structure Opr where
  rd : Bool
  k : Int
  t : Int
  n : Int
def Opr.zero : Opr := ⟨false, 0, 0, 0⟩
/-- Its cells. -/
def Opr.vals (x : Opr) : List Value := [.bool x.rd, .int .i64 x.k, .int .i64 x.t, .int .i64 x.n]
/-- Its numbers are ints of 64 bits. -/
def Opr.ok (x : Opr) : Prop := (-9223372036854775808 ≤ x.k ∧ x.k ≤ 9223372036854775807) ∧ (-9223372036854775808 ≤ x.t ∧ x.t ≤ 9223372036854775807) ∧ (-9223372036854775808 ≤ x.n ∧ x.n ≤ 9223372036854775807)
/-- The slice v, whose elements lie from block base on, holds xs. -/
def Oprs (base : Nat) (w : World) (v : Value) (xs : List Opr) : Prop :=
  ((∃ p c, v = .slice p 0 c ∧ (p = none → c = 0)) ∧ xs = []) ∨ ∃ g o c, v = .slice (some ⟨g, o, none⟩) xs.length c ∧ base ≤ g ∧ g < w.heap.size ∧ xs.length ≤ 9223372036854775807 ∧ ∀ k, k < xs.length →
    w.cell? ⟨g, o + k * 4, none⟩ = some (.bool (xs.getD k Opr.zero).rd) ∧ w.cell? ⟨g, o + k * 4 + 1, none⟩ = some (.int .i64 (xs.getD k Opr.zero).k) ∧ w.cell? ⟨g, o + k * 4 + 2, none⟩ = some (.int .i64 (xs.getD k Opr.zero).t) ∧ w.cell? ⟨g, o + k * 4 + 3, none⟩ = some (.int .i64 (xs.getD k Opr.zero).n)
theorem Oprs.kept {base base' : Nat} {w w1 : World} {v : Value} {xs : List Opr} (h : Oprs base w v xs) (hb : ∀ g, base ≤ g → g < w.heap.size → w1.heap[g]? = w.heap[g]? ∧ base' ≤ g) (hs : w.heap.size ≤ w1.heap.size) : Oprs base' w1 v xs := by
  rcases h with h | ⟨g, o, c, hv, h0, h1, h2, h3⟩
  · exact .inl h
  · refine .inr ⟨g, o, c, hv, (hb g h0 h1).2, Nat.lt_of_lt_of_le h1 hs, h2, fun k hk => ?_⟩
    have key : ∀ j, w1.cell? ⟨g, j, none⟩ = w.cell? ⟨g, j, none⟩ := fun j => World.cell?_of_block (a := ⟨g, j, none⟩) (hb g h0 h1).1
    simp only [key]
    exact h3 k hk
theorem Oprs.below {base : Nat} {w w1 : World} {v : Value} {xs : List Opr} (h : Oprs base w v xs) (hb : Below w.heap.size w w1) : Oprs base w1 v xs :=
  h.kept (fun g h0 h1 => ⟨hb.block g h1, h0⟩) hb.size
theorem Oprs.grown {base : Nat} {w w1 : World} {v : Value} {xs : List Opr} {x : Option Nat} (h : Oprs base w v xs) (hg : w.grownBy w1 x) (hx : ∀ b, x = some b → b < base) : Oprs base w1 v xs :=
  h.kept (fun g h0 h1 => ⟨hg.block g h1 (fun e => by have := hx g e.symm; omega), h0⟩) hg.size
theorem Oprs.mono {base base' : Nat} {w : World} {v : Value} {xs : List Opr} (h : Oprs base w v xs) (hb : base' ≤ base) : Oprs base' w v xs :=
  h.kept (fun _ h0 _ => ⟨rfl, Nat.le_trans hb h0⟩) (Nat.le_refl _)
theorem Oprs.open_ {base : Nat} {w : World} {v : Value} {xs : List Opr} (h : Oprs base w v xs) : ∃ p c, v = .slice p xs.length c ∧ xs.length ≤ 9223372036854775807 ∧ ∀ k, k < xs.length → ∃ g o, p = some ⟨g, o, none⟩ ∧ base ≤ g ∧ g < w.heap.size ∧
    w.cell? ⟨g, o + k * 4, none⟩ = some (.bool (xs.getD k Opr.zero).rd) ∧ w.cell? ⟨g, o + k * 4 + 1, none⟩ = some (.int .i64 (xs.getD k Opr.zero).k) ∧ w.cell? ⟨g, o + k * 4 + 2, none⟩ = some (.int .i64 (xs.getD k Opr.zero).t) ∧ w.cell? ⟨g, o + k * 4 + 3, none⟩ = some (.int .i64 (xs.getD k Opr.zero).n) := by
  rcases h with ⟨⟨p, c, hv⟩, rfl⟩ | ⟨g, o, c, hv, h0, h1, h2, h3⟩
  · exact ⟨p, c, hv.1, by simp, fun k hk => absurd hk (by simp)⟩
  · exact ⟨_, c, hv, h2, fun k hk => ⟨g, o, rfl, h0, h1, h3 k hk⟩⟩
theorem Oprs.nil {base : Nat} {w : World} : Oprs base w (.slice none 0 0) [] := .inl ⟨⟨_, _, rfl, fun _ => rfl⟩, rfl⟩
theorem opr_flat_len (zs : List Opr) : (zs.flatMap Opr.vals).length = zs.length * 4 := by
  induction zs with
  | nil => rfl
  | cons x zs ih => rw [List.flatMap_cons, List.length_append, ih]; simp [Opr.vals]; omega
theorem opr_flat_get : ∀ (zs : List Opr) (k j : Nat), k < zs.length → j < 4 → (zs.flatMap Opr.vals)[k * 4 + j]? = (Opr.vals (zs.getD k Opr.zero))[j]?
  | x :: zs, 0, j, _, hj => by
    rw [List.flatMap_cons, List.getElem?_append_left (by simp [Opr.vals]; omega)]
    simp
  | x :: zs, k + 1, j, hk, hj => by
    rw [List.flatMap_cons, List.getElem?_append_right (by simp [Opr.vals]; omega), show (k + 1) * 4 + j - (Opr.vals x).length = k * 4 + j by simp [Opr.vals]; omega, opr_flat_get zs k j (by simpa using hk) hj]
    rfl
theorem opr_flat_take (zs : List Opr) (m : Nat) : (zs.flatMap Opr.vals).take (m * 4) = (zs.take m).flatMap Opr.vals := by
  induction zs generalizing m with
  | nil => simp
  | cons x zs ih =>
    cases m with
    | zero => simp
    | succ m =>
      rw [List.flatMap_cons, List.take_succ_cons, List.flatMap_cons, ← ih m, List.take_append, List.take_of_length_le (by simp [Opr.vals]; omega)]
      congr 2
      simp [Opr.vals]; omega
theorem opr_vals_one (zs : List Opr) : ∀ u ∈ zs.flatMap Opr.vals, u.oneCell' = true := by
  intro u hu
  obtain ⟨x, _, hx⟩ := List.mem_flatMap.1 hu
  simp only [Opr.vals, List.mem_cons, List.not_mem_nil, or_false] at hx
  rcases hx with rfl | rfl | rfl | rfl <;> rfl
/-- The slice v, which the call made itself from block B on, holds zs. -/
def OwnOpr (B : Nat) (w : World) (v : Value) (zs : List Opr) : Prop := w.ownsRow B 30 4 v zs.length (zs.flatMap Opr.vals)
theorem OwnOpr.nil (B : Nat) (w : World) : OwnOpr B w (.slice none 0 0) [] := World.ownsRow_nil _ _ _ _
theorem OwnOpr.list {B : Nat} {w : World} {v : Value} {zs : List Opr} (h : OwnOpr B w v zs) (hl : zs.length ≤ 9223372036854775807) : Oprs B w v zs := by
  have h' := h
  rcases h.2 with ⟨hv, h0⟩ | ⟨g, cap, cur, hv, hB, h2, _⟩
  · exact .inl ⟨⟨_, _, hv, fun _ => rfl⟩, List.length_eq_zero_iff.1 h0⟩
  · subst hv
    have hc : ∀ k j, k < zs.length → j < 4 → w.cell? ⟨g, 0 + k * 4 + j, none⟩ = (Opr.vals (zs.getD k Opr.zero))[j]? := fun k j hk hj => by
      rw [Nat.zero_add, ← opr_flat_get zs k j hk hj]
      exact World.ownsRow.cellAt h' (k * 4 + j) (by omega)
    exact .inr ⟨g, 0, cap, rfl, hB, heap_lt h2, hl, fun k hk => ⟨hc k 0 hk (by omega), hc k 1 hk (by omega), hc k 2 hk (by omega), hc k 3 hk (by omega)⟩⟩
theorem OwnOpr.kept {B : Nat} {w w1 : World} {v : Value} {zs : List Opr} (h : OwnOpr B w v zs) {row : Option Nat} (hg : w.grownBy w1 row) (hne : v.ownBlock = none ∨ v.ownBlock ≠ row) : OwnOpr B w1 v zs := World.ownsRow.kept h hg hne
theorem OwnOpr.below {B : Nat} {w w1 : World} {v : Value} {zs : List Opr} (h : OwnOpr B w v zs) (hb : Below w.heap.size w w1) : OwnOpr B w1 v zs :=
  World.ownsRow.kept h (row := none) ⟨hb.os, hb.tape, hb.output, hb.size, fun k hk _ => hb.block k hk⟩ (by cases v.ownBlock <;> simp)
theorem OwnOpr.base {B : Nat} {w : World} {v : Value} {zs : List Opr} (h : OwnOpr B w v zs) : ∀ k, v.ownBlock = some k → B ≤ k ∧ k < w.heap.size := World.ownsRow.lt h
/-- The first m of it, in the same place. -/
theorem OwnOpr.cut {B : Nat} {w : World} {p : Option Addr} {n c : Nat} {zs : List Opr} (h : OwnOpr B w (.slice p n c) zs) {m : Nat} (hm : m ≤ zs.length) : OwnOpr B w (.slice p m c) (zs.take m) := by
  obtain ⟨hl, h⟩ := h
  have hlen : (zs.take m).length = m := by rw [List.length_take]; omega
  refine ⟨by rw [opr_flat_len], ?_⟩
  rw [hlen]
  rcases h with ⟨hv, h0⟩ | ⟨g, cap, cur, hv, h1, h2, h3, h4, h5, h6⟩
  · injection hv with e1 e2 e3
    subst e1 e3
    obtain rfl : m = 0 := by omega
    exact .inl ⟨rfl, rfl⟩
  · injection hv with e1 e2 e3
    subst e1 e3
    refine .inr ⟨g, c, cur, rfl, h1, h2, by omega, h4, h5, ?_⟩
    rw [← opr_flat_take, ← h6, List.take_take]
    congr 1
    have := Nat.mul_le_mul_right 4 hm
    omega
theorem opr_info : (Tryz.prog.info? 30).map (fun i => (i.zero, i.size, i.bytes)) = some (some (.agg #[.bool false, .int .i64 0, .int .i64 0, .int .i64 0]), 4, 32) := by kernel_rfl
theorem run_append_oprs {B base : Nat} {w : World} {v u : Value} {zs ys : List Opr} (ty : TypeId)
    (hB : B ≤ w.heap.size) (hown : OwnOpr B w v zs) (hys : Oprs base w u ys) (hl : zs.length + ys.length ≤ 1000000) :
    ∃ v' w', (Builtin.append_ #[22, 22] ty #[v, u]).run Tryz.prog w = .ok v' w' ∧ OwnOpr B w' v' (zs ++ ys) ∧ w.grownBy w' v.ownBlock ∧ (v'.ownBlock = v.ownBlock ∨ v'.ownBlock = some w.heap.size) := by
  obtain ⟨i0, hi, hz0, hz1, hz2⟩ := info_parts opr_info
  rcases hys with ⟨⟨p, c, rfl, hpc⟩, rfl⟩ | ⟨g, o', c, rfl, _, _, _, hc⟩
  · cases p with
    | none =>
      obtain rfl := hpc rfl
      exact ⟨v, w, run_append_owned_none (P := Tryz.prog) (w := w) B 22 ty 30 i0 4 Tryz.underlying22 hi v zs.length (zs.flatMap Opr.vals) hown, by rw [List.append_nil]; exact hown, World.grownBy.refl _ _, .inl rfl⟩
    | some ad =>
      obtain ⟨v', w', hr, h2, h3, _, h5⟩ := run_append_own_at (P := Tryz.prog) w B 22 ty 30 i0 (.agg #[.bool false, .int .i64 0, .int .i64 0, .int .i64 0]) 4 32 Tryz.underlying22 hi hz0 hz1 hz2 rfl (by decide) v zs.length (zs.flatMap Opr.vals) hown ad 0 c [] (by simp) (by simp) (by simp) (by simp only [maxLen]; omega) (by omega) hB
      refine ⟨v', w', hr, ?_, h3, h5⟩
      rw [List.append_nil]
      unfold OwnOpr
      simpa using h2
  · obtain ⟨v', w', hr, h2, h3, _, h5⟩ := run_append_own_at (P := Tryz.prog) w B 22 ty 30 i0 (.agg #[.bool false, .int .i64 0, .int .i64 0, .int .i64 0]) 4 32 Tryz.underlying22 hi hz0 hz1 hz2 rfl (by decide) v zs.length (zs.flatMap Opr.vals) hown ⟨g, o', none⟩ ys.length c (ys.flatMap Opr.vals) (opr_flat_len ys) (by
      intro t y hy
      have ht : t < ys.length * 4 := by rw [← opr_flat_len ys]; exact (List.getElem?_eq_some_iff.1 hy).1
      have hk : t / 4 < ys.length := by omega
      have hr : t % 4 < 4 := Nat.mod_lt _ (by decide)
      have e : t = t / 4 * 4 + t % 4 := by omega
      have hcc := hc (t / 4) hk
      rw [e, opr_flat_get ys _ _ hk hr] at hy
      rw [add_plain, e]
      generalize t / 4 = k at hcc hy
      generalize t % 4 = j at hr hy
      obtain ⟨c0, c1, c2, c3⟩ := hcc
      match j, hr, hy with
      | 0, _, hy => simp [Opr.vals] at hy; subst hy; simpa [Nat.add_assoc] using c0
      | 1, _, hy => simp [Opr.vals] at hy; subst hy; simpa [Nat.add_assoc] using c1
      | 2, _, hy => simp [Opr.vals] at hy; subst hy; simpa [Nat.add_assoc] using c2
      | 3, _, hy => simp [Opr.vals] at hy; subst hy; simpa [Nat.add_assoc] using c3) (opr_vals_one ys) (by simp only [maxLen]; omega) (by omega) hB
    refine ⟨v', w', hr, ?_, h3, h5⟩
    unfold OwnOpr
    rw [List.length_append, List.flatMap_append]
    exact h2
/-- Some are put behind a slice of the call's own. -/
theorem append_oprs {ops : Array Oper} {rest : List Oper} {o : Oper} {a : Act} {Q : Exit → Act → World → Prop} (hgd : o.guard = none) (s x : Operand)
    (ho : o.op = .call { callee := .builtin .append, args := #[s, x], argTypes := #[22, 22] }) {B base : Nat} {w : World} {v u : Value} {zs ys : List Opr}
    (hB : B ≤ w.heap.size) (hown : OwnOpr B w v zs) (hs : a.eval s = v) (hys : Oprs base w u ys) (hx : a.eval x = u) (hl : zs.length + ys.length ≤ 1000000)
    (h : ∀ v' w', OwnOpr B w' v' (zs ++ ys) → w.grownBy w' v.ownBlock → (v'.ownBlock = v.ownBlock ∨ v'.ownBlock = some w.heap.size) → wpList Tryz.prog ops Q rest (a.put o.dst v') w') :
    wpList Tryz.prog ops Q (o :: rest) a w := by
  refine wpList_plain hgd fun K hK => ?_
  obtain ⟨v', w', hr, h2, h3, h5⟩ := run_append_oprs o.type hB hown hys hl
  unfold Oper.wp execOp
  simp only [ho, resolve, invoke, builtin, Sem.run_bind, Sem.run_pure, Result.andThen_ok, List.map_toArray, List.map_cons, List.map_nil, hs, hx, hr]
  exact hK _ _ (h v' w' h2 h3 h5)
/-- The same, as one step of a region that draws its order. -/
theorem step_append_oprs {ops : Array Oper} {o : Oper} {a : Act} {w : World} {K : Act → World → Prop} {Q : Exit → Act → World → Prop} {E : Prop} (hgd : o.guard = none) (s x : Operand)
    (ho : o.op = .call { callee := .builtin .append, args := #[s, x], argTypes := #[22, 22] }) {B base : Nat} {v u : Value} {zs ys : List Opr}
    (hB : B ≤ w.heap.size) (hown : OwnOpr B w v zs) (hs : a.eval s = v) (hys : Oprs base w u ys) (hx : a.eval x = u) (hl : zs.length + ys.length ≤ 1000000)
    (hK : ∀ v' w', OwnOpr B w' v' (zs ++ ys) → w.grownBy w' v.ownBlock → (v'.ownBlock = v.ownBlock ∨ v'.ownBlock = some w.heap.size) → K (a.put o.dst v') w') :
    if Region.wanted o (yielded ops a.tmps) = true then Oper.wp Tryz.prog o a w K Q else E := by
  rw [if_pos (by simp [Region.wanted, hgd])]
  obtain ⟨v', w', hr, h2, h3, h5⟩ := run_append_oprs o.type hB hown hys hl
  unfold Oper.wp
  simp [execOp, ho, resolve, invoke, builtin, hs, hx, hr, Result.andThen]
  exact hK v' w' h2 h3 h5
theorem OwnOpr.lay {B : Nat} {w X : World} {v : Value} {zs : List Opr} (h : OwnOpr B w v zs) (hx : X.heap = w.heap) (o : Obj) : OwnOpr B (X.alloc o) v zs := by
  have h1 : OwnOpr B X v zs := by
    unfold OwnOpr World.ownsRow at *
    rw [hx]
    exact h
  exact World.ownsRow.alloc h1 o
theorem ownOpr_empty {B : Nat} {W : World} {g : Nat} (hB : B ≤ g) (h : W.heap[g]? = some (.cells #[] 30)) : OwnOpr B W (.slice (some ⟨g, 0, none⟩) 0 0) [] :=
  ⟨rfl, .inr ⟨g, 0, #[], rfl, hB, h, Nat.le_refl _, by simp [maxLen], rfl, rfl⟩⟩
/-- One that is typed out. -/
theorem opr_at {X : World} {g : Nat} (c : Opr) (h : X.heap[g]? = some (.cells #[.bool c.rd, .int .i64 c.k, .int .i64 c.t, .int .i64 c.n] 30)) : Oprs 0 X (.slice (some ⟨g, 0, none⟩) 1 1) [c] := by
  refine .inr ⟨g, 0, 1, rfl, Nat.zero_le _, heap_lt h, by simp, fun k hk => ?_⟩
  have : k = 0 := by simpa using hk
  subst this
  simp only [World.cell?, h]
  simp
theorem opr_lit (c : Opr) (X : World) : Oprs 0 (X.alloc (.cells #[.bool c.rd, .int .i64 c.k, .int .i64 c.t, .int .i64 c.n] 30)) (.slice (some ⟨X.heap.size, 0, none⟩) 1 1) [c] := opr_at c (heap_alloc_at _ _ _ rfl)

section
variable {H : Type} {enc : TypeId × Value → H} {w : World}
set_option maxRecDepth 100000 in
theorem open_opr_cells {n : Nat} {u : Value} {y : DataW H × List MemPlace} (h : DataW.trod enc Tryz.prog w 0 (fun _ => true) true n 22 [u] = some y) : ∃ xs, (∃ p c, u = .slice p xs.length c ∧ xs.length ≤ c) ∧ Oprs 0 w u xs ∧ ∀ x ∈ xs, Opr.ok x := by
  obtain ⟨q, len, cap, rfl, hqc, hlc, hl, hc⟩ := open_structs2 Tryz.underlying22 Tryz.underlying30 (by kernel_rfl) (by kernel_rfl) (by decide) h
  have hx : ∀ k, ∃ x : Opr, Opr.ok x ∧ (k < len → ∃ g o, q = some ⟨g, o, none⟩ ∧ g < w.heap.size ∧ w.cell? ⟨g, o + k * 4, none⟩ = some (.bool x.rd) ∧ w.cell? ⟨g, o + k * 4 + 1, none⟩ = some (.int .i64 x.k) ∧ w.cell? ⟨g, o + k * 4 + 2, none⟩ = some (.int .i64 x.t) ∧ w.cell? ⟨g, o + k * 4 + 3, none⟩ = some (.int .i64 x.n)) := fun k => by
    by_cases hk : k < len
    · obtain ⟨g, o, ha, hg, hcc⟩ := hc k hk
      obtain ⟨u0, y0, n0, hc0, ht0⟩ := hcc 0 _ rfl
      obtain ⟨z0, hz0, _⟩ := DataW.trod_bool Tryz.underlying4 ht0
      obtain rfl := (List.cons.inj hz0).1
      obtain ⟨u1, y1, n1, hc1, ht1⟩ := hcc 1 _ rfl
      obtain ⟨z1, hz1, _, hb1⟩ := DataW.trod_int Tryz.underlying3 ht1
      obtain rfl := (List.cons.inj hz1).1
      obtain ⟨u2, y2, n2, hc2, ht2⟩ := hcc 2 _ rfl
      obtain ⟨z2, hz2, _, hb2⟩ := DataW.trod_int Tryz.underlying3 ht2
      obtain rfl := (List.cons.inj hz2).1
      obtain ⟨u3, y3, n3, hc3, ht3⟩ := hcc 3 _ rfl
      obtain ⟨z3, hz3, _, hb3⟩ := DataW.trod_int Tryz.underlying3 ht3
      obtain rfl := (List.cons.inj hz3).1
      exact ⟨⟨z0, z1, z2, z3⟩, ⟨bounds_i64 hb1, bounds_i64 hb2, bounds_i64 hb3⟩, fun _ => ⟨g, o, ha, hg, hc0, hc1, hc2, hc3⟩⟩
    · exact ⟨Opr.zero, ⟨⟨by decide, by decide⟩, ⟨by decide, by decide⟩, ⟨by decide, by decide⟩⟩, fun h => absurd h hk⟩
  obtain ⟨f, hf⟩ := Classical.axiomOfChoice hx
  have hlen : ((List.range len).map f).length = len := by simp
  refine ⟨(List.range len).map f, ⟨q, cap, by rw [hlen], by rw [hlen]; exact hlc⟩, ?_, fun x hx => ?_⟩
  · by_cases h0 : len = 0
    · subst h0
      exact .inl ⟨⟨_, _, rfl, hqc⟩, rfl⟩
    · obtain ⟨g, o, hq, hg, _⟩ := (hf 0).2 (by omega)
      subst hq
      refine .inr ⟨g, o, cap, by rw [hlen], Nat.zero_le _, hg, by rw [hlen]; exact hl, fun k hk => ?_⟩
      rw [hlen] at hk
      obtain ⟨g', o', hq, _, hcc⟩ := (hf k).2 hk
      simp only [Option.some.injEq, Addr.mk.injEq, and_true] at hq
      obtain ⟨rfl, rfl⟩ := hq
      have hget : ((List.range len).map f).getD k Opr.zero = f k := by simp [List.getD_eq_getElem?_getD, hk]
      rw [hget]
      exact hcc
  · obtain ⟨k, _, rfl⟩ := List.mem_map.1 hx
    exact (hf k).1
set_option maxRecDepth 100000 in
theorem open_oprs {r : Reach} {b0 : Nat} {v : Value} {d : DataW H} {p : List MemPlace} (hv : Value.okWide Tryz.prog w r b0 22 v) (h : DataW.Trod enc Tryz.prog w 0 (fun _ => true) true 22 v d p) : ∃ xs, (∃ p c, v = .slice p xs.length c ∧ xs.length ≤ c) ∧ Oprs 0 w v xs ∧ ∀ x ∈ xs, Opr.ok x := by
  obtain ⟨a0, len, cap, rfl⟩ := okWide_slice Tryz.underlying22 hv
  obtain ⟨fuel, hf⟩ := h
  exact open_opr_cells hf
set_option maxRecDepth 100000 in
theorem open_opr {r : Reach} {b0 : Nat} {v : Value} {d : DataW H} {p : List MemPlace} {base : Nat} {spare : Nat → Bool} {held : Bool} (hv : Value.okWide Tryz.prog w r b0 30 v) (h : DataW.Trod enc Tryz.prog w base spare held 30 v d p) : ∃ x : Opr, Opr.ok x ∧ v = .agg #[.bool x.rd, .int .i64 x.k, .int .i64 x.t, .int .i64 x.n] := by
  obtain ⟨cs, rfl, hsz⟩ := okWide_struct Tryz.underlying30 hv
  obtain ⟨fuel, hfu⟩ := h
  obtain ⟨xs, n', _, _, hcl, hxl, hg⟩ := DataW.trod_struct Tryz.underlying30 hfu
  have hsz' : cs.size = 4 := hsz
  have hxl' : xs.length = 4 := hxl
  obtain ⟨l⟩ := cs
  obtain ⟨u0, u1, u2, u3, rfl⟩ : ∃ u0 u1 u2 u3, l = [u0, u1, u2, u3] := by
    match l, hsz' with
    | [a0, a1, a2, a3], _ => exact ⟨a0, a1, a2, a3, rfl⟩
  have h0 := hg 0 _ rfl
  rw [List.getElem?_eq_getElem (by omega)] at h0
  obtain ⟨z0, hz0, _⟩ := DataW.trod_bool Tryz.underlying4 h0
  have e0 : [u0] = _ := hz0
  obtain rfl := (List.cons.inj e0).1
  have h1 := hg 1 _ rfl
  rw [List.getElem?_eq_getElem (by omega)] at h1
  obtain ⟨z1, hz1, _, hb1⟩ := DataW.trod_int Tryz.underlying3 h1
  have e1 : [u1] = _ := hz1
  obtain rfl := (List.cons.inj e1).1
  have h2 := hg 2 _ rfl
  rw [List.getElem?_eq_getElem (by omega)] at h2
  obtain ⟨z2, hz2, _, hb2⟩ := DataW.trod_int Tryz.underlying3 h2
  have e2 : [u2] = _ := hz2
  obtain rfl := (List.cons.inj e2).1
  have h3 := hg 3 _ rfl
  rw [List.getElem?_eq_getElem (by omega)] at h3
  obtain ⟨z3, hz3, _, hb3⟩ := DataW.trod_int Tryz.underlying3 h3
  have e3 : [u3] = _ := hz3
  obtain rfl := (List.cons.inj e3).1
  exact ⟨⟨z0, z1, z2, z3⟩, ⟨bounds_i64 hb1, bounds_i64 hb2, bounds_i64 hb3⟩, rfl⟩
end
end Go.Proofs.YtaogofjnpnheeaaGreatDoor.F
namespace Go.Proofs.YtaogofjnpnheeaaGreatDoor.Op
open Go.Lib Nu Pk F
def rightO (x : Opr) : Bool := if x.rd then vR x.t x.k x.n else decide (1 ≤ x.k ∧ x.k ≤ 1048575 ∧ x.t = 0 ∧ x.n = 0)
/-- An operation's text. -/
def textO (x : Opr) : List UInt8 :=
  if rightO x then (if x.rd then (if x.t = 0 then 114 :: (itoa x.k ++ 64 :: itoa x.t) else 114 :: (itoa x.k ++ 64 :: (itoa x.t ++ 46 :: itoa x.n))) else 119 :: itoa x.k) else []
theorem right_w {x : Opr} (h : rightO x = true) (hr : x.rd = false) : 1 ≤ x.k ∧ x.k ≤ 1048575 ∧ x.t = 0 ∧ x.n = 0 := by
  unfold rightO at h
  rw [hr] at h
  simpa using h
theorem right_r {x : Opr} (h : rightO x = true) (hr : x.rd = true) : (x.t = 0 ∧ x.n = 0 ∨ 1 ≤ x.t ∧ x.t ≤ 1048575 ∧ 1 ≤ x.n ∧ x.n ≤ 4095) ∧ 1 ≤ x.k ∧ x.k ≤ 1048575 := by
  unfold rightO at h
  rw [hr] at h
  exact vR_iff.1 h
end Go.Proofs.YtaogofjnpnheeaaGreatDoor.Op
namespace Go.Proofs.YtaogofjnpnheeaaGreatDoor.F
open Go.ChangeShapes Go.WideShapes Go.ChangeAt Go.RowKit Base
/-- A value of the struct. -/
structure Ver where
  t : Int
  k : Int
  n : Int
def Ver.zero : Ver := ⟨0, 0, 0⟩
/-- Its cells. -/
def Ver.vals (x : Ver) : List Value := [.int .i64 x.t, .int .i64 x.k, .int .i64 x.n]
/-- Its fields are ints of 64 bits. -/
def Ver.ok (x : Ver) : Prop := (-9223372036854775808 ≤ x.t ∧ x.t ≤ 9223372036854775807) ∧ (-9223372036854775808 ≤ x.k ∧ x.k ≤ 9223372036854775807) ∧ (-9223372036854775808 ≤ x.n ∧ x.n ≤ 9223372036854775807)
/-- The slice v, whose elements lie from block base on, holds xs. -/
def Vers (base : Nat) (w : World) (v : Value) (xs : List Ver) : Prop :=
  ((∃ p c, v = .slice p 0 c ∧ (p = none → c = 0)) ∧ xs = []) ∨ ∃ g o c, v = .slice (some ⟨g, o, none⟩) xs.length c ∧ base ≤ g ∧ g < w.heap.size ∧ xs.length ≤ 9223372036854775807 ∧ ∀ k, k < xs.length →
    w.cell? ⟨g, o + k * 3, none⟩ = some (.int .i64 (xs.getD k Ver.zero).t) ∧ w.cell? ⟨g, o + k * 3 + 1, none⟩ = some (.int .i64 (xs.getD k Ver.zero).k) ∧ w.cell? ⟨g, o + k * 3 + 2, none⟩ = some (.int .i64 (xs.getD k Ver.zero).n)
theorem Vers.kept {base base' : Nat} {w w1 : World} {v : Value} {xs : List Ver} (h : Vers base w v xs) (hb : ∀ g, base ≤ g → g < w.heap.size → w1.heap[g]? = w.heap[g]? ∧ base' ≤ g) (hs : w.heap.size ≤ w1.heap.size) : Vers base' w1 v xs := by
  rcases h with h | ⟨g, o, c, hv, h0, h1, h2, h3⟩
  · exact .inl h
  · refine .inr ⟨g, o, c, hv, (hb g h0 h1).2, Nat.lt_of_lt_of_le h1 hs, h2, fun k hk => ?_⟩
    have key : ∀ j, w1.cell? ⟨g, j, none⟩ = w.cell? ⟨g, j, none⟩ := fun j => World.cell?_of_block (a := ⟨g, j, none⟩) (hb g h0 h1).1
    simp only [key]
    exact h3 k hk
theorem Vers.below {base : Nat} {w w1 : World} {v : Value} {xs : List Ver} (h : Vers base w v xs) (hb : Below w.heap.size w w1) : Vers base w1 v xs :=
  h.kept (fun g h0 h1 => ⟨hb.block g h1, h0⟩) hb.size
theorem Vers.grown {base : Nat} {w w1 : World} {v : Value} {xs : List Ver} {x : Option Nat} (h : Vers base w v xs) (hg : w.grownBy w1 x) (hx : ∀ b, x = some b → b < base) : Vers base w1 v xs :=
  h.kept (fun g h0 h1 => ⟨hg.block g h1 (fun e => by have := hx g e.symm; omega), h0⟩) hg.size
theorem Vers.mono {base base' : Nat} {w : World} {v : Value} {xs : List Ver} (h : Vers base w v xs) (hb : base' ≤ base) : Vers base' w v xs :=
  h.kept (fun _ h0 _ => ⟨rfl, Nat.le_trans hb h0⟩) (Nat.le_refl _)
theorem Vers.open_ {base : Nat} {w : World} {v : Value} {xs : List Ver} (h : Vers base w v xs) : ∃ p c, v = .slice p xs.length c ∧ xs.length ≤ 9223372036854775807 ∧ ∀ k, k < xs.length → ∃ g o, p = some ⟨g, o, none⟩ ∧ base ≤ g ∧ g < w.heap.size ∧
    w.cell? ⟨g, o + k * 3, none⟩ = some (.int .i64 (xs.getD k Ver.zero).t) ∧ w.cell? ⟨g, o + k * 3 + 1, none⟩ = some (.int .i64 (xs.getD k Ver.zero).k) ∧ w.cell? ⟨g, o + k * 3 + 2, none⟩ = some (.int .i64 (xs.getD k Ver.zero).n) := by
  rcases h with ⟨⟨p, c, hv⟩, rfl⟩ | ⟨g, o, c, hv, h0, h1, h2, h3⟩
  · exact ⟨p, c, hv.1, by simp, fun k hk => absurd hk (by simp)⟩
  · exact ⟨_, c, hv, h2, fun k hk => ⟨g, o, rfl, h0, h1, h3 k hk⟩⟩
theorem Vers.nil {base : Nat} {w : World} : Vers base w (.slice none 0 0) [] := .inl ⟨⟨_, _, rfl, fun _ => rfl⟩, rfl⟩
theorem ver_flat_len (zs : List Ver) : (zs.flatMap Ver.vals).length = zs.length * 3 := by
  induction zs with
  | nil => rfl
  | cons x zs ih => rw [List.flatMap_cons, List.length_append, ih]; simp [Ver.vals]; omega
theorem ver_flat_get : ∀ (zs : List Ver) (k j : Nat), k < zs.length → j < 3 → (zs.flatMap Ver.vals)[k * 3 + j]? = (Ver.vals (zs.getD k Ver.zero))[j]?
  | x :: zs, 0, j, _, hj => by
    rw [List.flatMap_cons, List.getElem?_append_left (by simp [Ver.vals]; omega)]
    simp
  | x :: zs, k + 1, j, hk, hj => by
    rw [List.flatMap_cons, List.getElem?_append_right (by simp [Ver.vals]; omega), show (k + 1) * 3 + j - (Ver.vals x).length = k * 3 + j by simp [Ver.vals]; omega, ver_flat_get zs k j (by simpa using hk) hj]
    rfl
theorem ver_flat_take (zs : List Ver) (m : Nat) : (zs.flatMap Ver.vals).take (m * 3) = (zs.take m).flatMap Ver.vals := by
  induction zs generalizing m with
  | nil => simp
  | cons x zs ih =>
    cases m with
    | zero => simp
    | succ m =>
      rw [List.flatMap_cons, List.take_succ_cons, List.flatMap_cons, ← ih m, List.take_append, List.take_of_length_le (by simp [Ver.vals]; omega)]
      congr 2
      simp [Ver.vals]; omega
theorem ver_vals_one (zs : List Ver) : ∀ u ∈ zs.flatMap Ver.vals, u.oneCell' = true := by
  intro u hu
  obtain ⟨x, _, hx⟩ := List.mem_flatMap.1 hu
  simp only [Ver.vals, List.mem_cons, List.not_mem_nil, or_false] at hx
  rcases hx with rfl | rfl | rfl <;> rfl
/-- The slice v, which the call made itself from block B on, holds zs. -/
def OwnVer (B : Nat) (w : World) (v : Value) (zs : List Ver) : Prop := w.ownsRow B 42 3 v zs.length (zs.flatMap Ver.vals)
theorem OwnVer.nil (B : Nat) (w : World) : OwnVer B w (.slice none 0 0) [] := World.ownsRow_nil _ _ _ _
theorem OwnVer.list {B : Nat} {w : World} {v : Value} {zs : List Ver} (h : OwnVer B w v zs) (hl : zs.length ≤ 9223372036854775807) : Vers B w v zs := by
  have h' := h
  rcases h.2 with ⟨hv, h0⟩ | ⟨g, cap, cur, hv, hB, h2, _⟩
  · exact .inl ⟨⟨_, _, hv, fun _ => rfl⟩, List.length_eq_zero_iff.1 h0⟩
  · subst hv
    have hc : ∀ k j, k < zs.length → j < 3 → w.cell? ⟨g, 0 + k * 3 + j, none⟩ = (Ver.vals (zs.getD k Ver.zero))[j]? := fun k j hk hj => by
      rw [Nat.zero_add, ← ver_flat_get zs k j hk hj]
      exact World.ownsRow.cellAt h' (k * 3 + j) (by omega)
    exact .inr ⟨g, 0, cap, rfl, hB, heap_lt h2, hl, fun k hk => ⟨hc k 0 hk (by omega), hc k 1 hk (by omega), hc k 2 hk (by omega)⟩⟩
theorem OwnVer.kept {B : Nat} {w w1 : World} {v : Value} {zs : List Ver} (h : OwnVer B w v zs) {row : Option Nat} (hg : w.grownBy w1 row) (hne : v.ownBlock = none ∨ v.ownBlock ≠ row) : OwnVer B w1 v zs := World.ownsRow.kept h hg hne
theorem OwnVer.below {B : Nat} {w w1 : World} {v : Value} {zs : List Ver} (h : OwnVer B w v zs) (hb : Below w.heap.size w w1) : OwnVer B w1 v zs :=
  World.ownsRow.kept h (row := none) ⟨hb.os, hb.tape, hb.output, hb.size, fun k hk _ => hb.block k hk⟩ (by cases v.ownBlock <;> simp)
theorem OwnVer.base {B : Nat} {w : World} {v : Value} {zs : List Ver} (h : OwnVer B w v zs) : ∀ k, v.ownBlock = some k → B ≤ k ∧ k < w.heap.size := World.ownsRow.lt h
/-- The first m of it, in the same place. -/
theorem OwnVer.cut {B : Nat} {w : World} {p : Option Addr} {n c : Nat} {zs : List Ver} (h : OwnVer B w (.slice p n c) zs) {m : Nat} (hm : m ≤ zs.length) : OwnVer B w (.slice p m c) (zs.take m) := by
  obtain ⟨hl, h⟩ := h
  have hlen : (zs.take m).length = m := by rw [List.length_take]; omega
  refine ⟨by rw [ver_flat_len], ?_⟩
  rw [hlen]
  rcases h with ⟨hv, h0⟩ | ⟨g, cap, cur, hv, h1, h2, h3, h4, h5, h6⟩
  · injection hv with e1 e2 e3
    subst e1 e3
    obtain rfl : m = 0 := by omega
    exact .inl ⟨rfl, rfl⟩
  · injection hv with e1 e2 e3
    subst e1 e3
    refine .inr ⟨g, c, cur, rfl, h1, h2, by omega, h4, h5, ?_⟩
    rw [← ver_flat_take, ← h6, List.take_take]
    congr 1
    have := Nat.mul_le_mul_right 3 hm
    omega
theorem ver_info : (Tryz.prog.info? 42).map (fun i => (i.zero, i.size, i.bytes)) = some (some (.agg #[.int .i64 0, .int .i64 0, .int .i64 0]), 3, 24) := by kernel_rfl
theorem run_append_vers {B base : Nat} {w : World} {v u : Value} {zs ys : List Ver} (ty : TypeId)
    (hB : B ≤ w.heap.size) (hown : OwnVer B w v zs) (hys : Vers base w u ys) (hl : zs.length + ys.length ≤ 1000000) :
    ∃ v' w', (Builtin.append_ #[39, 39] ty #[v, u]).run Tryz.prog w = .ok v' w' ∧ OwnVer B w' v' (zs ++ ys) ∧ w.grownBy w' v.ownBlock ∧ (v'.ownBlock = v.ownBlock ∨ v'.ownBlock = some w.heap.size) := by
  obtain ⟨i0, hi, hz0, hz1, hz2⟩ := info_parts ver_info
  rcases hys with ⟨⟨p, c, rfl, hpc⟩, rfl⟩ | ⟨g, o', c, rfl, _, _, _, hc⟩
  · cases p with
    | none =>
      obtain rfl := hpc rfl
      exact ⟨v, w, run_append_owned_none (P := Tryz.prog) (w := w) B 39 ty 42 i0 3 Tryz.underlying39 hi v zs.length (zs.flatMap Ver.vals) hown, by rw [List.append_nil]; exact hown, World.grownBy.refl _ _, .inl rfl⟩
    | some ad =>
      obtain ⟨v', w', hr, h2, h3, _, h5⟩ := run_append_own_at (P := Tryz.prog) w B 39 ty 42 i0 (.agg #[.int .i64 0, .int .i64 0, .int .i64 0]) 3 24 Tryz.underlying39 hi hz0 hz1 hz2 rfl (by decide) v zs.length (zs.flatMap Ver.vals) hown ad 0 c [] (by simp) (by simp) (by simp) (by simp only [maxLen]; omega) (by omega) hB
      refine ⟨v', w', hr, ?_, h3, h5⟩
      rw [List.append_nil]
      unfold OwnVer
      simpa using h2
  · obtain ⟨v', w', hr, h2, h3, _, h5⟩ := run_append_own_at (P := Tryz.prog) w B 39 ty 42 i0 (.agg #[.int .i64 0, .int .i64 0, .int .i64 0]) 3 24 Tryz.underlying39 hi hz0 hz1 hz2 rfl (by decide) v zs.length (zs.flatMap Ver.vals) hown ⟨g, o', none⟩ ys.length c (ys.flatMap Ver.vals) (ver_flat_len ys) (by
      intro t y hy
      have ht : t < ys.length * 3 := by rw [← ver_flat_len ys]; exact (List.getElem?_eq_some_iff.1 hy).1
      have hk : t / 3 < ys.length := by omega
      have hr : t % 3 < 3 := Nat.mod_lt _ (by decide)
      have e : t = t / 3 * 3 + t % 3 := by omega
      have hcc := hc (t / 3) hk
      rw [e, ver_flat_get ys _ _ hk hr] at hy
      rw [add_plain, e]
      generalize t / 3 = k at hcc hy
      generalize t % 3 = j at hr hy
      obtain ⟨c0, c1, c2⟩ := hcc
      match j, hr, hy with
      | 0, _, hy => simp [Ver.vals] at hy; subst hy; simpa [Nat.add_assoc] using c0
      | 1, _, hy => simp [Ver.vals] at hy; subst hy; simpa [Nat.add_assoc] using c1
      | 2, _, hy => simp [Ver.vals] at hy; subst hy; simpa [Nat.add_assoc] using c2) (ver_vals_one ys) (by simp only [maxLen]; omega) (by omega) hB
    refine ⟨v', w', hr, ?_, h3, h5⟩
    unfold OwnVer
    rw [List.length_append, List.flatMap_append]
    exact h2
/-- Some are put behind a slice of the call's own. -/
theorem append_vers {ops : Array Oper} {rest : List Oper} {o : Oper} {a : Act} {Q : Exit → Act → World → Prop} (hgd : o.guard = none) (s x : Operand)
    (ho : o.op = .call { callee := .builtin .append, args := #[s, x], argTypes := #[39, 39] }) {B base : Nat} {w : World} {v u : Value} {zs ys : List Ver}
    (hB : B ≤ w.heap.size) (hown : OwnVer B w v zs) (hs : a.eval s = v) (hys : Vers base w u ys) (hx : a.eval x = u) (hl : zs.length + ys.length ≤ 1000000)
    (h : ∀ v' w', OwnVer B w' v' (zs ++ ys) → w.grownBy w' v.ownBlock → (v'.ownBlock = v.ownBlock ∨ v'.ownBlock = some w.heap.size) → wpList Tryz.prog ops Q rest (a.put o.dst v') w') :
    wpList Tryz.prog ops Q (o :: rest) a w := by
  refine wpList_plain hgd fun K hK => ?_
  obtain ⟨v', w', hr, h2, h3, h5⟩ := run_append_vers o.type hB hown hys hl
  unfold Oper.wp execOp
  simp only [ho, resolve, invoke, builtin, Sem.run_bind, Sem.run_pure, Result.andThen_ok, List.map_toArray, List.map_cons, List.map_nil, hs, hx, hr]
  exact hK _ _ (h v' w' h2 h3 h5)
/-- The same, as one step of a region that draws its order. -/
theorem step_append_vers {ops : Array Oper} {o : Oper} {a : Act} {w : World} {K : Act → World → Prop} {Q : Exit → Act → World → Prop} {E : Prop} (hgd : o.guard = none) (s x : Operand)
    (ho : o.op = .call { callee := .builtin .append, args := #[s, x], argTypes := #[39, 39] }) {B base : Nat} {v u : Value} {zs ys : List Ver}
    (hB : B ≤ w.heap.size) (hown : OwnVer B w v zs) (hs : a.eval s = v) (hys : Vers base w u ys) (hx : a.eval x = u) (hl : zs.length + ys.length ≤ 1000000)
    (hK : ∀ v' w', OwnVer B w' v' (zs ++ ys) → w.grownBy w' v.ownBlock → (v'.ownBlock = v.ownBlock ∨ v'.ownBlock = some w.heap.size) → K (a.put o.dst v') w') :
    if Region.wanted o (yielded ops a.tmps) = true then Oper.wp Tryz.prog o a w K Q else E := by
  rw [if_pos (by simp [Region.wanted, hgd])]
  obtain ⟨v', w', hr, h2, h3, h5⟩ := run_append_vers o.type hB hown hys hl
  unfold Oper.wp
  simp [execOp, ho, resolve, invoke, builtin, hs, hx, hr, Result.andThen]
  exact hK v' w' h2 h3 h5
theorem OwnVer.lay {B : Nat} {w X : World} {v : Value} {zs : List Ver} (h : OwnVer B w v zs) (hx : X.heap = w.heap) (o : Obj) : OwnVer B (X.alloc o) v zs := by
  have h1 : OwnVer B X v zs := by
    unfold OwnVer World.ownsRow at *
    rw [hx]
    exact h
  exact World.ownsRow.alloc h1 o
theorem ownVer_empty {B : Nat} {W : World} {g : Nat} (hB : B ≤ g) (h : W.heap[g]? = some (.cells #[] 42)) : OwnVer B W (.slice (some ⟨g, 0, none⟩) 0 0) [] :=
  ⟨rfl, .inr ⟨g, 0, #[], rfl, hB, h, Nat.le_refl _, by simp [maxLen], rfl, rfl⟩⟩
/-- One that is typed out. -/
theorem ver_at {X : World} {g : Nat} (c : Ver) (h : X.heap[g]? = some (.cells #[.int .i64 c.t, .int .i64 c.k, .int .i64 c.n] 42)) : Vers 0 X (.slice (some ⟨g, 0, none⟩) 1 1) [c] := by
  refine .inr ⟨g, 0, 1, rfl, Nat.zero_le _, heap_lt h, by simp, fun k hk => ?_⟩
  have : k = 0 := by simpa using hk
  subst this
  simp only [World.cell?, h]
  simp
theorem ver_lit (c : Ver) (X : World) : Vers 0 (X.alloc (.cells #[.int .i64 c.t, .int .i64 c.k, .int .i64 c.n] 42)) (.slice (some ⟨X.heap.size, 0, none⟩) 1 1) [c] := ver_at c (heap_alloc_at _ _ _ rfl)

theorem ver_flat : flatB Tryz.prog 8 42 = true := by kernel_rfl
theorem ver_cells : Tryz.prog.cellsOf 42 = 3 := by kernel_rfl
section
variable {H : Type} {enc : TypeId × Value → H} {w : World}
set_option maxRecDepth 100000 in
theorem open_vers {r : Reach} {b0 : Nat} {v : Value} {d : DataW H} {p : List MemPlace} (hv : Value.okWide Tryz.prog w r b0 39 v) (h : DataW.Trod enc Tryz.prog w 0 (fun _ => true) true 39 v d p) : ∃ xs, (∃ p c, v = .slice p xs.length c ∧ xs.length ≤ c) ∧ Vers 0 w v xs ∧ ∀ x ∈ xs, Ver.ok x := by
  obtain ⟨q, len, cap, G, rfl, hqc, hlc, hl, hG, hc⟩ := open_flat Tryz.underlying39 ver_flat (by rw [ver_cells]; decide) hv h
  rw [ver_cells] at hc
  have hlen : ((List.range len).map fun k => (⟨G k 0, G k 1, G k 2⟩ : Ver)).length = len := by simp
  refine ⟨(List.range len).map fun k => ⟨G k 0, G k 1, G k 2⟩, ⟨q, cap, by rw [hlen], by rw [hlen]; exact hlc⟩, ?_, fun x hx => ?_⟩
  · by_cases h0 : len = 0
    · subst h0
      exact .inl ⟨⟨_, _, rfl, hqc⟩, rfl⟩
    · obtain ⟨g, o, hq, hg, _⟩ := hc 0 (by omega)
      subst hq
      refine .inr ⟨g, o, cap, by rw [hlen], Nat.zero_le _, hg, by rw [hlen]; exact hl, fun k hk => ?_⟩
      rw [hlen] at hk
      obtain ⟨g', o', hq, _, hcc⟩ := hc k hk
      simp only [Option.some.injEq, Addr.mk.injEq, and_true] at hq
      obtain ⟨rfl, rfl⟩ := hq
      have hget : ((List.range len).map fun k => (⟨G k 0, G k 1, G k 2⟩ : Ver)).getD k Ver.zero = ⟨G k 0, G k 1, G k 2⟩ := by simp [List.getD_eq_getElem?_getD, hk]
      rw [hget]
      exact ⟨hcc 0 (by omega), hcc 1 (by omega), hcc 2 (by omega)⟩
  · obtain ⟨k, _, rfl⟩ := List.mem_map.1 hx
    exact ⟨hG k 0, hG k 1, hG k 2⟩
set_option maxRecDepth 100000 in
theorem open_ver {r : Reach} {b0 : Nat} {v : Value} {d : DataW H} {p : List MemPlace} {base : Nat} {spare : Nat → Bool} {held : Bool} (hv : Value.okWide Tryz.prog w r b0 42 v) (h : DataW.Trod enc Tryz.prog w base spare held 42 v d p) : ∃ x : Ver, Ver.ok x ∧ v = .agg #[.int .i64 x.t, .int .i64 x.k, .int .i64 x.n] := by
  obtain ⟨G, hG, hv'⟩ := open_flat1 Tryz.underlying42 ver_flat hv h
  rw [ver_cells] at hv'
  exact ⟨⟨G 0, G 1, G 2⟩, ⟨hG 0, hG 1, hG 2⟩, hv'⟩
end
end Go.Proofs.YtaogofjnpnheeaaGreatDoor.F
namespace Go.Proofs.YtaogofjnpnheeaaGreatDoor.F
open Go.ChangeShapes Go.WideShapes Go.ChangeAt Go.RowKit Base
/-- Are two alike? -/
def Ver.beq (x y : Ver) : Bool := decide (x.t = y.t) && decide (x.k = y.k) && decide (x.n = y.n)
theorem Ver.beq_iff (x y : Ver) : Ver.beq x y = true ↔ x = y := by
  unfold Ver.beq
  constructor
  · intro h
    simp only [Bool.and_eq_true, decide_eq_true_eq] at h
    cases x; cases y
    simp_all
  · intro h
    subst h
    simp
theorem Ver.beq_self (x : Ver) : Ver.beq x x = true := (Ver.beq_iff x x).2 rfl
set_option maxHeartbeats 4000000 in
theorem eq_ver (x y : Ver) (w : World) : (binOp .eql 42 (.agg #[.int .i64 x.t, .int .i64 x.k, .int .i64 x.n]) (.agg #[.int .i64 y.t, .int .i64 y.k, .int .i64 y.n])).run Tryz.prog w = .ok (.bool (Ver.beq x y)) w := by
  have u3 := Tryz.underlying3
  have a3 := Tryz.isAgg3
  have z3 := Tryz.sizeOf3
  have hS : Tryz.prog.underlying 42 = some (.struct (Tryz.prog.fieldsOf 42)) := by kernel_rfl
  have hp : Tryz.prog.stoodInHeld 42 = false := by kernel_rfl
  rw [run_eql_struct, show (10000 : Nat) = 9999 + 1 from rfl, run_equalIn_agg w 9999 42 _ _ hS hp]
  simp only [Program.fieldsOf, Tryz.underlying42]
  go_simp
  obtain ⟨x0, x1, x2⟩ := x
  obtain ⟨y0, y1, y2⟩ := y
  unfold Ver.beq
  by_cases h0 : x0 = y0 <;> by_cases h1 : x1 = y1 <;> by_cases h2 : x2 = y2 <;> simp [h0, h1, h2]
set_option maxHeartbeats 4000000 in
theorem ne_ver (x y : Ver) (w : World) : (binOp .neq 42 (.agg #[.int .i64 x.t, .int .i64 x.k, .int .i64 x.n]) (.agg #[.int .i64 y.t, .int .i64 y.k, .int .i64 y.n])).run Tryz.prog w = .ok (.bool (!Ver.beq x y)) w := by
  have u3 := Tryz.underlying3
  have a3 := Tryz.isAgg3
  have z3 := Tryz.sizeOf3
  have hS : Tryz.prog.underlying 42 = some (.struct (Tryz.prog.fieldsOf 42)) := by kernel_rfl
  have hp : Tryz.prog.stoodInHeld 42 = false := by kernel_rfl
  rw [run_neq_struct, show (10000 : Nat) = 9999 + 1 from rfl, run_equalIn_agg w 9999 42 _ _ hS hp]
  simp only [Program.fieldsOf, Tryz.underlying42]
  go_simp
  obtain ⟨x0, x1, x2⟩ := x
  obtain ⟨y0, y1, y2⟩ := y
  unfold Ver.beq
  by_cases h0 : x0 = y0 <;> by_cases h1 : x1 = y1 <;> by_cases h2 : x2 = y2 <;> simp [h0, h1, h2]
end Go.Proofs.YtaogofjnpnheeaaGreatDoor.F
namespace Go.Proofs.YtaogofjnpnheeaaGreatDoor.Tx
open Go.Lib Go.Sort Nu F
open Go.Proofs.YtaogofjnpnheeaaGreatDoor.Op (rightO textO)
/-! numbers in order, each once -/
abbrev Rises (l : List Int) : Prop := l.Pairwise (· < ·)
theorem rises_ext : ∀ {l m : List Int}, Rises l → Rises m → (∀ x, x ∈ l ↔ x ∈ m) → l = m
  | [], [], _, _, _ => rfl
  | [], y :: m, _, _, h => by have := (h y).2 List.mem_cons_self; cases this
  | x :: l, [], _, _, h => by have := (h x).1 List.mem_cons_self; cases this
  | x :: l, y :: m, hl, hm, h => by
    obtain ⟨hl1, hl2⟩ := List.pairwise_cons.1 hl
    obtain ⟨hm1, hm2⟩ := List.pairwise_cons.1 hm
    have hxy : x = y := by
      rcases List.mem_cons.1 ((h x).1 List.mem_cons_self) with e | e
      · exact e
      · rcases List.mem_cons.1 ((h y).2 List.mem_cons_self) with e' | e'
        · exact e'.symm
        · have := hl1 y e'
          have := hm1 x e
          omega
    subst hxy
    rw [rises_ext hl2 hm2 fun z => ?_]
    constructor
    · intro hz
      rcases List.mem_cons.1 ((h z).1 (List.mem_cons_of_mem _ hz)) with e | e
      · have := hl1 z hz; omega
      · exact e
    · intro hz
      rcases List.mem_cons.1 ((h z).2 (List.mem_cons_of_mem _ hz)) with e | e
      · have := hm1 z hz; omega
      · exact e
/-- A list with one more, put ahead of the first that is not less. -/
def putF (n : Int) : List Int → List Int
  | [] => [n]
  | x :: l => if n ≤ x then n :: (x :: l).filter (fun y => y != n) else x :: putF n l
theorem mem_putF (n y : Int) : ∀ l, y ∈ putF n l ↔ y = n ∨ y ∈ l
  | [] => by simp [putF]
  | x :: l => by
    unfold putF
    split
    · simp only [List.mem_cons, List.mem_filter, bne_iff_ne, ne_eq]
      constructor
      · rintro (h | ⟨h, _⟩)
        · exact .inl h
        · exact .inr h
      · rintro (h | h)
        · exact .inl h
        · by_cases e : y = n
          · exact .inl e
          · exact .inr ⟨h, e⟩
    · rw [List.mem_cons, mem_putF n y l, List.mem_cons]
      constructor
      · rintro (h | h | h)
        · exact .inr (.inl h)
        · exact .inl h
        · exact .inr (.inr h)
      · rintro (h | h | h)
        · exact .inr (.inl h)
        · exact .inl h
        · exact .inr (.inr h)
theorem rises_putF (n : Int) : ∀ {l : List Int}, Rises l → Rises (putF n l)
  | [], _ => by simp [putF]
  | x :: l, h => by
    obtain ⟨h1, h2⟩ := List.pairwise_cons.1 h
    unfold putF
    split
    · rename_i hn
      refine List.pairwise_cons.2 ⟨fun y hy => ?_, h.filter _⟩
      rw [List.mem_filter] at hy
      obtain ⟨hy1, hy2⟩ := hy
      simp only [bne_iff_ne, ne_eq] at hy2
      rcases List.mem_cons.1 hy1 with e | e
      · omega
      · have := h1 y e; omega
    · rename_i hn
      refine List.pairwise_cons.2 ⟨fun y hy => ?_, rises_putF n h2⟩
      rcases (mem_putF n y l).1 hy with e | e
      · omega
      · exact h1 y e
theorem putF_len (n : Int) : ∀ l, (putF n l).length ≤ l.length + 1
  | [] => by simp [putF]
  | x :: l => by
    unfold putF
    split
    · have := List.length_filter_le (fun y => y != n) (x :: l)
      simp only [List.length_cons] at this ⊢
      omega
    · have := putF_len n l
      simp only [List.length_cons]
      omega
/-- What is still to come: n was put, or not. -/
def goF (n : Int) (b : Bool) (l : List Int) : List Int := if b then l.filter (fun y => y != n) else putF n l
theorem goF_lt {n x : Int} {l : List Int} (h : x < n) : goF n false (x :: l) = x :: goF n false l := by
  show putF n (x :: l) = x :: putF n l
  rw [putF, if_neg (by omega)]
theorem goF_eq (n : Int) (l : List Int) : goF n false (n :: l) = n :: goF n true l := by
  show putF n (n :: l) = n :: l.filter _
  rw [putF, if_pos (Int.le_refl _)]
  simp
theorem goF_gt {n x : Int} {l : List Int} (h : n < x) : goF n false (x :: l) = n :: x :: goF n true l := by
  show putF n (x :: l) = n :: x :: l.filter _
  rw [putF, if_pos (by omega), List.filter_cons_of_pos (by simp; omega)]
theorem goF_skip (n : Int) (l : List Int) : goF n true (n :: l) = goF n true l := by simp [goF]
theorem goF_keep {n x : Int} {l : List Int} (h : x ≠ n) : goF n true (x :: l) = x :: goF n true l := by simp [goF, h]
/-- The keys, in order, each once. -/
def keysL (ks : List Int) : List Int := ks.foldl (fun acc k => putF k acc) []
theorem keysL_snoc (ks : List Int) (k : Int) : keysL (ks ++ [k]) = putF k (keysL ks) := by unfold keysL; rw [List.foldl_append]; rfl
theorem fold_rises : ∀ (ks acc : List Int), Rises acc → Rises (ks.foldl (fun acc k => putF k acc) acc) ∧ ∀ y, y ∈ ks.foldl (fun acc k => putF k acc) acc ↔ y ∈ acc ∨ y ∈ ks
  | [], acc, h => ⟨h, by simp⟩
  | k :: ks, acc, h => by
    obtain ⟨h1, h2⟩ := fold_rises ks (putF k acc) (rises_putF k h)
    refine ⟨h1, fun y => ?_⟩
    rw [List.foldl_cons, h2, mem_putF, List.mem_cons]
    constructor
    · rintro ((h | h) | h)
      · exact .inr (.inl h)
      · exact .inl h
      · exact .inr (.inr h)
    · rintro (h | h | h)
      · exact .inl (.inr h)
      · exact .inl (.inl h)
      · exact .inr h
theorem keysL_rises (ks : List Int) : Rises (keysL ks) := (fold_rises ks [] (by simp)).1
theorem mem_keysL {ks : List Int} {y : Int} : y ∈ keysL ks ↔ y ∈ ks := by
  have := (fold_rises ks [] (by simp)).2 y
  simpa [keysL] using this
theorem keysL_len (ks : List Int) : (keysL ks).length ≤ ks.length := by
  have : ∀ (ks acc : List Int), (ks.foldl (fun acc k => putF k acc) acc).length ≤ acc.length + ks.length := by
    intro ks
    induction ks with
    | nil => intro acc; simp
    | cons k ks ih =>
      intro acc
      have h1 := ih (putF k acc)
      have h2 := putF_len k acc
      simp only [List.foldl_cons, List.length_cons]
      omega
  have := this ks []
  simpa [keysL] using this
theorem compact_rises (s : Array Int) (hs : ∀ i j, i < j → j < s.size → s[i]! ≤ s[j]!) : ∀ m, m ≤ s.size → Rises (compactUpTo s m) ∧ ∀ x, x ∈ compactUpTo s m ↔ ∃ j, j < m ∧ s[j]! = x
  | 0, _ => by simp [compactUpTo]
  | m + 1, hm => by
    obtain ⟨h1, h2⟩ := compact_rises s hs m (by omega)
    rw [compactUpTo_succ]
    by_cases hk : keeps s m = true
    · rw [if_pos hk]
      have hk' : m = 0 ∨ s[m]! ≠ s[m - 1]! := by simpa [keeps] using hk
      constructor
      · refine List.pairwise_append.2 ⟨h1, by simp, fun x hx y hy => ?_⟩
        rw [List.mem_singleton] at hy
        subst hy
        obtain ⟨j, hj, e⟩ := (h2 x).1 hx
        rw [← e]
        have hw := hs j m hj (by omega)
        rcases hk' with h0 | h0
        · omega
        · by_cases hjm : j = m - 1
          · rw [← hjm] at h0; omega
          · have a1 := hs j (m - 1) (by omega) (by omega)
            have a2 := hs (m - 1) m (by omega) (by omega)
            omega
      · intro x
        rw [List.mem_append, h2, List.mem_singleton]
        constructor
        · rintro (⟨j, hj, e⟩ | e)
          · exact ⟨j, by omega, e⟩
          · exact ⟨m, by omega, e.symm⟩
        · rintro ⟨j, hj, e⟩
          by_cases hjm : j = m
          · exact .inr (by rw [← e, hjm])
          · exact .inl ⟨j, by omega, e⟩
    · rw [if_neg hk, List.append_nil]
      have hk' : ¬ m = 0 ∧ s[m]! = s[m - 1]! := by simpa [keeps] using hk
      refine ⟨h1, fun x => ?_⟩
      rw [h2]
      constructor
      · rintro ⟨j, hj, e⟩
        exact ⟨j, by omega, e⟩
      · rintro ⟨j, hj, e⟩
        by_cases hjm : j = m
        · exact ⟨m - 1, by omega, by rw [← e, hjm]; exact hk'.2.symm⟩
        · exact ⟨j, by omega, e⟩
/-- Sorted and compacted: the same. -/
theorem compact_sort (ks : List Int) : compact (ks.mergeSort fun x y => decide (x ≤ y)) = keysL ks := by
  have hp := List.mergeSort_perm ks (fun x y => decide (x ≤ y))
  have hw : (ks.mergeSort fun x y => decide (x ≤ y)).Pairwise fun x y => decide (x ≤ y) = true :=
    List.pairwise_mergeSort (fun a b c h1 h2 => by
      simp only [decide_eq_true_eq] at *
      omega) (fun a b => by
      simp only [Bool.or_eq_true, decide_eq_true_eq]
      omega) ks
  generalize (ks.mergeSort fun x y => decide (x ≤ y)) = l at hp hw ⊢
  have hs : ∀ i j, i < j → j < l.toArray.size → l.toArray[i]! ≤ l.toArray[j]! := fun i j hij hj => by
    have hj' : j < l.length := by simpa using hj
    have hi' : i < l.length := by omega
    have := List.pairwise_iff_getElem.1 hw i j hi' hj' hij
    rw [getElem!_pos l.toArray j (by simpa using hj'), getElem!_pos l.toArray i (by simpa using hi')]
    simpa using this
  obtain ⟨h1, h2⟩ := compact_rises l.toArray hs l.toArray.size (Nat.le_refl _)
  have hc : compact l = compactUpTo l.toArray l.toArray.size := by unfold compact; simp
  rw [hc]
  refine rises_ext h1 (keysL_rises ks) fun x => ?_
  rw [h2, mem_keysL, ← hp.mem_iff]
  constructor
  · rintro ⟨j, hj, e⟩
    have hj' : j < l.length := by simpa using hj
    rw [getElem!_pos l.toArray j hj] at e
    rw [← e]
    simp
  · intro hx
    obtain ⟨j, hj, e⟩ := List.getElem_of_mem hx
    refine ⟨j, by simpa using hj, ?_⟩
    rw [getElem!_pos l.toArray j (by simpa using hj)]
    simpa using e
theorem take_snoc {α : Type} (l : List α) (d : α) (k : Nat) (h : k < l.length) : l.take (k + 1) = l.take k ++ [l.getD k d] := by
  rw [List.take_succ_eq_append_getElem h, List.getD_eq_getElem?_getD, List.getElem?_eq_getElem h]; rfl
theorem drop_cons {α : Type} (l : List α) (d : α) (k : Nat) (h : k < l.length) : l.drop k = l.getD k d :: l.drop (k + 1) := by
  rw [List.drop_eq_getElem_cons h, List.getD_eq_getElem?_getD, List.getElem?_eq_getElem h]; rfl
/-! what is written -/
/-- How often a key is written. -/
def wrN (l : List Opr) (key : Int) : Nat := l.countP (fun o => !o.rd && decide (o.k = key))
theorem wrN_snoc (l : List Opr) (o : Opr) (key : Int) : wrN (l ++ [o]) key = wrN l key + (if o.rd = false ∧ o.k = key then 1 else 0) := by
  unfold wrN
  rw [List.countP_append, List.countP_singleton]
  congr 1
  cases o.rd <;> simp
theorem wrN_le (l : List Opr) (key : Int) : wrN l key ≤ l.length := List.countP_le_length
/-- Without its reads. -/
def bareL (l : List Opr) : List Opr := l.filter (fun o => !o.rd)
theorem bareL_snoc (l : List Opr) (o : Opr) : bareL (l ++ [o]) = bareL l ++ (if o.rd then [] else [o]) := by
  unfold bareL
  rw [List.filter_append]
  congr 1
  cases h : o.rd <;> simp [h]
theorem bareL_len (l : List Opr) : (bareL l).length ≤ l.length := List.length_filter_le _ _
/-- The keys of operations, all or those that are written. -/
def keysO (l : List Opr) : List Int := keysL (l.map Opr.k)
/-! why a transaction is not right -/
/-- pre: the operations ahead. -/
def rtGo (id : Int) : List Opr → List Opr → Int
  | _, [] => 0
  | pre, o :: l => if rightO o = false then 1 else if o.rd = true ∧ o.t = id ∧ (wrN pre o.k : Int) < o.n then 6 else rtGo id (pre ++ [o]) l
def rightT (id : Int) (l : List Opr) : Int := if id < 1 ∨ 1048575 < id then 1 else if 4095 < l.length then 9 else rtGo id [] l
theorem rt_at (id : Int) (l : List Opr) (k : Nat) (h : k < l.length) : rtGo id (l.take k) (l.drop k) = if rightO (l.getD k Opr.zero) = false then 1 else if (l.getD k Opr.zero).rd = true ∧ (l.getD k Opr.zero).t = id ∧ (wrN (l.take k) (l.getD k Opr.zero).k : Int) < (l.getD k Opr.zero).n then 6 else rtGo id (l.take (k + 1)) (l.drop (k + 1)) := by
  rw [drop_cons l Opr.zero k h, take_snoc l Opr.zero k h]
  rfl
theorem rt_end (id : Int) (l : List Opr) (k : Nat) (h : l.length ≤ k) : rtGo id (l.take k) (l.drop k) = 0 := by
  rw [List.drop_eq_nil_of_le h]
  rfl
/-! versions of others that are read -/
/-- The version that a read reads; a write's is none. -/
def verO (o : Opr) : Ver := if o.rd then ⟨o.t, o.k, o.n⟩ else ⟨0, 0, 0⟩
/-- Is a version among some? -/
def inV (l : List Ver) (v : Ver) : Bool := l.any (fun x => Ver.beq x v)
theorem inV_iff {l : List Ver} {v : Ver} : inV l v = true ↔ v ∈ l := by
  unfold inV
  rw [List.any_eq_true]
  constructor
  · rintro ⟨x, hx, e⟩
    rw [← (Ver.beq_iff _ _).1 e]; exact hx
  · intro h
    exact ⟨v, h, Ver.beq_self v⟩
/-- Is it needed? -/
def need (id : Int) (acc : List Ver) (o : Opr) : Bool := o.rd && decide (o.t ≠ 0) && decide (o.t ≠ id) && !inV acc (verO o)
def needStep (id : Int) (acc : List Ver) (o : Opr) : List Ver := if need id acc o then acc ++ [verO o] else acc
def needsL (id : Int) (l : List Opr) : List Ver := l.foldl (needStep id) []
theorem needs_snoc (id : Int) (l : List Opr) (o : Opr) : needsL id (l ++ [o]) = needStep id (needsL id l) o := by unfold needsL; rw [List.foldl_append]; rfl
theorem needs_len (id : Int) (l : List Opr) : (needsL id l).length ≤ l.length := by
  have : ∀ (l : List Opr) (acc : List Ver), (l.foldl (needStep id) acc).length ≤ acc.length + l.length := by
    intro l
    induction l with
    | nil => intro acc; simp
    | cons o l ih =>
      intro acc
      have h1 := ih (needStep id acc o)
      have h2 : (needStep id acc o).length ≤ acc.length + 1 := by unfold needStep; split <;> simp
      simp only [List.foldl_cons, List.length_cons]
      omega
  have := this l []
  simpa [needsL] using this
/-! its text -/
def endB (d : Bool) : List UInt8 := if d then [99] else [97]
def textT (id : Int) (d : Bool) (l : List Opr) : List UInt8 := itoa id ++ 32 :: endB d ++ (l.flatMap fun o => 32 :: textO o)
def wordsT (id : Int) (d : Bool) (l : List Opr) : List (List UInt8) := itoa id :: endB d :: l.map textO
theorem join_words (id : Int) (d : Bool) (l : List Opr) : Lib.join (wordsT id d l) [32] = textT id d l := by
  unfold wordsT textT
  rw [Lib.join_cons]
  unfold Lib.joinTail
  rw [List.append_assoc]
  congr 1
  rw [List.map_cons, List.flatten_cons, List.map_map, List.flatMap_def]
  rfl
end Go.Proofs.YtaogofjnpnheeaaGreatDoor.Tx
namespace Go.Proofs.YtaogofjnpnheeaaGreatDoor.F
open Go.ChangeShapes Go.WideShapes Go.ChangeAt Go.RowKit Base
/-- A block has another object, all else is as it was. -/
def Stored (w : World) (g : Nat) (o : Obj) (w' : World) : Prop := w'.os = w.os ∧ w'.tape = w.tape ∧ w'.output = w.output ∧ w'.heap.size = w.heap.size ∧ w'.heap[g]? = some o ∧ ∀ k, k ≠ g → w'.heap[k]? = w.heap[k]?
theorem Stored.below {B : Nat} {w0 w w' : World} {g : Nat} {o : Obj} (h : Stored w g o w') (hb : Below B w0 w) (hg : B ≤ g) : Below B w0 w' :=
  ⟨h.1.trans hb.os, h.2.1.trans hb.tape, h.2.2.1.trans hb.output, by rw [h.2.2.2.1]; exact hb.size, fun k hk => (h.2.2.2.2.2 k (by omega)).trans (hb.block k hk)⟩
theorem stored_setRow (w : World) (g : Nat) (old cs : Array Value) (t : TypeId) (hg : w.heap[g]? = some (.cells old t)) : Stored w g (.cells cs t) (w.setRow g cs) :=
  ⟨rfl, rfl, rfl, size_setRow _ _ _, setRow_heap _ _ _ _ _ _ hg, fun _ hk => setRow_other _ _ _ _ hk⟩
end Go.Proofs.YtaogofjnpnheeaaGreatDoor.F
namespace Go.Proofs.YtaogofjnpnheeaaGreatDoor.F
open Go.ChangeShapes Go.WideShapes Go.ChangeAt Go.RowKit Base
/-- An operation's box. -/
def boxO (x : Opr) : Obj := .cells #[.bool x.rd, .int .i64 x.k, .int .i64 x.t, .int .i64 x.n] 30
theorem cellsO {w : World} {g : Nat} {x : Opr} (h : w.heap[g]? = some (boxO x)) : g < w.heap.size ∧ (w.cell? ⟨g, 0, none⟩ = some (.bool x.rd) ∧ w.cell? ⟨g, 1, none⟩ = some (.int .i64 x.k) ∧ w.cell? ⟨g, 2, none⟩ = some (.int .i64 x.t) ∧ w.cell? ⟨g, 3, none⟩ = some (.int .i64 x.n)) ∧
    w.frozen? ⟨g, 0, none⟩ = false ∧ w.frozen? ⟨g, 1, none⟩ = false ∧ w.frozen? ⟨g, 2, none⟩ = false ∧ w.frozen? ⟨g, 3, none⟩ = false := by
  refine ⟨heap_lt h, ?_⟩
  unfold boxO at h
  simp [World.cell?, World.frozen?, h]
set_option maxRecDepth 100000 in
theorem wpList_store_opr {ops : Array Oper} {rest : List Oper} {o : Oper} {a : Act} {w : World} {Q : Exit → Act → World → Prop} (hgd : o.guard = none) (x y : Operand) (ho : o.op = .store 30 x y)
    (g : Nat) (c c0 : Opr) (hx : a.eval x = .pointer (some ⟨g, 0, none⟩)) (hy : a.eval y = .agg #[.bool c.rd, .int .i64 c.k, .int .i64 c.t, .int .i64 c.n]) (hg : w.heap[g]? = some (boxO c0))
    (h : ∀ w', Stored w g (boxO c) w' → wpList Tryz.prog ops Q rest (a.put o.dst undef) w') : wpList Tryz.prog ops Q (o :: rest) a w :=
  wpList_store_row hgd _ x y ho g _ hx hy 30 _ hg (by kernel_rfl) rfl (by simp [Value.oneCell']) (h _ (stored_setRow _ _ _ _ _ hg))
theorem storedO_t {w : World} {g : Nat} {c : Opr} (h : w.heap[g]? = some (boxO c)) (x : Int) : Stored w g (boxO ⟨c.rd, c.k, x, c.n⟩) (w.setCell ⟨g, 2, none⟩ (.int .i64 x)) := by
  unfold boxO at h
  refine ⟨rfl, rfl, rfl, by simp [World.setCell], ?_, fun j hj => Below.heap_setCell _ _ _ _ hj⟩
  simp [World.setCell, Array.getElem?_modify, h, boxO]
theorem storedO_n {w : World} {g : Nat} {c : Opr} (h : w.heap[g]? = some (boxO c)) (x : Int) : Stored w g (boxO ⟨c.rd, c.k, c.t, x⟩) (w.setCell ⟨g, 3, none⟩ (.int .i64 x)) := by
  unfold boxO at h
  refine ⟨rfl, rfl, rfl, by simp [World.setCell], ?_, fun j hj => Below.heap_setCell _ _ _ _ hj⟩
  simp [World.setCell, Array.getElem?_modify, h, boxO]
end Go.Proofs.YtaogofjnpnheeaaGreatDoor.F
