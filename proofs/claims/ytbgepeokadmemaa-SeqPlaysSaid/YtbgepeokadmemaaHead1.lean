/-
  Contracts of small functions, several texts laid into one. Not a statement of the seat.
-/
import Derived.Test.YtbgepeokadmemaaBase
import Derived.Deep.Slices
import Derived.Deep.Fields
import Derived.ChangeSame
import Derived.OpenShut
import Derived.ProofKit
import Derived.Deep.DeepHandedRow
import Derived.Laws.AppendOwnNone
import Derived.Maps.AppendAt
import Derived.Deep.RegionLaw
import Derived.Deep.QuietTactic
import Derived.BigQuiet
namespace Go.Proofs.Ytbgepeokadmemaa.F
open Go.ChangeShapes Go.WideShapes Go.ChangeAt Go.RowKit Base
section
open Go.Deep
variable {H : Type} {enc : TypeId × Value → H} {P : Program} {w : World}
/-- Is each cell of a type an int of 64 bits? (Structs in structs, too.) -/
def flatB (P : Program) : Nat → TypeId → Bool
  | 0, _ => false
  | n + 1, t => match P.underlying t with
    | some (.int k) => decide (k = .i64) && decide (P.cellsOf t = 1)
    | some (.struct fs) => fs.all (fun f => flatB P n f.type) && (List.range (P.cellsOf t)).all fun i => fs.any fun f => decide (f.offset ≤ i ∧ i < f.offset + P.cellsOf f.type)
    | _ => false
/-- An int of 64 bits. -/
def is64 (z : Int) : Prop := -9223372036854775808 ≤ z ∧ z ≤ 9223372036854775807
theorem flat_cells : ∀ (n : Nat) (t : TypeId), flatB P n t = true → ∀ (base : Nat) (spare : Nat → Bool) (held : Bool) (fuel : Nat) (cs : List Value) (x : DataW H × List MemPlace), DataW.trod enc P w base spare held fuel t cs = some x → ∀ i, i < P.cellsOf t → ∃ z, cs[i]? = some (.int .i64 z) ∧ is64 z
  | 0, _, h => by simp [flatB] at h
  | n + 1, t, h => by
    intro base spare held fuel cs x hx i hi
    unfold flatB at h
    split at h
    · next k hk =>
      rw [Bool.and_eq_true] at h
      have e1 := of_decide_eq_true h.1
      have e2 := of_decide_eq_true h.2
      subst e1
      obtain ⟨z, rfl, _, hw⟩ := DataW.trod_int hk hx
      have : i = 0 := by omega
      subst this
      exact ⟨z, rfl, bounds_i64 hw⟩
    · next fs hs =>
      rw [Bool.and_eq_true] at h
      obtain ⟨h1, h2⟩ := h
      obtain ⟨xs, n', _, _, hcl, hxl, hg⟩ := DataW.trod_struct hs hx
      have h3 := List.all_eq_true.1 h2 i (List.mem_range.2 hi)
      rw [Array.any_eq_true] at h3
      obtain ⟨j, hj, h3⟩ := h3
      have h4 := of_decide_eq_true h3
      have h5 := hg j fs[j] (Array.getElem?_eq_getElem hj)
      rw [List.getElem?_eq_getElem (by omega)] at h5
      have h6 : flatB P n fs[j].type = true := by
        rw [Array.all_eq_true] at h1
        exact h1 j hj
      obtain ⟨z, hz, hb⟩ := flat_cells n _ h6 _ _ _ _ _ _ h5 (i - fs[j].offset) (by omega)
      refine ⟨z, ?_, hb⟩
      rw [List.getElem?_take, if_pos (by omega), List.getElem?_drop] at hz
      rw [← hz]
      congr 1
      omega
    · cases h
/-- A slice of such structs. -/
theorem open_flat {r : Reach} {b0 n : Nat} {t e : TypeId} {v : Value} {d : DataW H} {p : List MemPlace} (ht : P.underlying t = some (.slice e)) (hf : flatB P n e = true) (hpos : 0 < P.cellsOf e) (hv : Value.okWide P w r b0 t v) (h : DataW.Trod enc P w 0 (fun _ => true) true t v d p) :
    ∃ (q : Option Addr) (len cap : Nat) (G : Nat → Nat → Int), v = .slice q len cap ∧ (q = none → cap = 0) ∧ len ≤ cap ∧ len ≤ 9223372036854775807 ∧ (∀ k j, is64 (G k j)) ∧ ∀ k, k < len → ∃ g o, q = some ⟨g, o, none⟩ ∧ g < w.heap.size ∧ ∀ j, j < P.cellsOf e → w.cell? ⟨g, o + k * P.cellsOf e + j, none⟩ = some (.int .i64 (G k j)) := by
  obtain ⟨a0, len, cap, rfl⟩ := okWide_slice ht hv
  obtain ⟨fuel, hfu⟩ := h
  rcases open_slice ht hfu with ⟨hcs, _⟩ | ⟨a, len', cap', m, n', D, Pl, hcs, _, hl, hm, hmm, _, hel⟩
  · simp [Value.cells] at hcs
    obtain ⟨rfl, rfl, rfl⟩ := hcs
    exact ⟨none, 0, 0, fun _ _ => 0, rfl, fun _ => rfl, by omega, by omega, fun _ _ => (show is64 0 from ⟨by decide, by decide⟩), fun k hk => absurd hk (by omega)⟩
  · simp [Value.cells] at hcs
    obtain ⟨rfl, rfl, rfl⟩ := hcs
    simp only [if_true] at hmm
    have key : ∀ k, ∀ j, ∃ z : Int, is64 z ∧ (k < len → j < P.cellsOf e → w.cell? ((a.add (k * P.cellsOf e)).add j) = some (.int .i64 z)) := fun k j => by
      by_cases hk : k < len ∧ j < P.cellsOf e
      · obtain ⟨cs', hc, ht'⟩ := hel k (by omega)
        obtain ⟨_, hcl, hat⟩ := World.cells?_some hc
        obtain ⟨z, hz, hb⟩ := flat_cells n e hf _ _ _ _ _ _ ht' j hk.2
        exact ⟨z, hb, fun _ _ => (hat j hk.2).trans hz⟩
      · exact ⟨0, ⟨by decide, by decide⟩, fun h1 h2 => absurd ⟨h1, h2⟩ hk⟩
    have hG : ∃ G : Nat → Nat → Int, ∀ k j, is64 (G k j) ∧ (k < len → j < P.cellsOf e → w.cell? ((a.add (k * P.cellsOf e)).add j) = some (.int .i64 (G k j))) := by
      obtain ⟨G, hG⟩ := Classical.axiomOfChoice fun k => Classical.axiomOfChoice (key k)
      exact ⟨G, hG⟩
    obtain ⟨G, hG⟩ := hG
    refine ⟨some a, len, cap, G, rfl, (fun e => by cases e), hl, by simp only [maxLen] at hm; omega, fun k j => (hG k j).1, fun k hk => ?_⟩
    obtain ⟨b, off, spot⟩ := a
    have h0 := (hG k 0).2 hk hpos
    have hspot : spot = none := by
      have h9 := World.cell?_spot ((hG 0 0).2 (by omega) hpos)
      simpa [Addr.add] using h9
    subst hspot
    refine ⟨b, off, rfl, ?_, fun j hj => ?_⟩
    · rw [add_plain, add_plain] at h0
      exact World.block_lt_of_cell? w _ h0
    · have := (hG k j).2 hk hj
      rwa [add_plain, add_plain] at this
/-- Such a struct by value. -/
theorem open_flat1 {r : Reach} {b0 n : Nat} {t : TypeId} {v : Value} {d : DataW H} {p : List MemPlace} {base : Nat} {spare : Nat → Bool} {held : Bool} {fs : Array Field} (hs : P.underlying t = some (.struct fs)) (hf : flatB P n t = true) (hv : Value.okWide P w r b0 t v) (h : DataW.Trod enc P w base spare held t v d p) :
    ∃ G : Nat → Int, (∀ j, is64 (G j)) ∧ v = .agg (((List.range (P.cellsOf t)).map fun j => Value.int .i64 (G j)).toArray) := by
  obtain ⟨cs, rfl, hsz⟩ := okWide_struct hs hv
  obtain ⟨fuel, hfu⟩ := h
  have key : ∀ j, ∃ z : Int, is64 z ∧ (j < P.cellsOf t → cs[j]? = some (.int .i64 z)) := fun j => by
    by_cases hj : j < P.cellsOf t
    · obtain ⟨z, hz, hb⟩ := flat_cells n t hf _ _ _ _ _ _ hfu j hj
      exact ⟨z, hb, fun _ => by simpa [Value.cells] using hz⟩
    · exact ⟨0, ⟨by decide, by decide⟩, fun h => absurd h hj⟩
  obtain ⟨G, hG⟩ := Classical.axiomOfChoice key
  refine ⟨G, fun j => (hG j).1, ?_⟩
  congr 1
  apply Array.ext_getElem?
  intro j
  by_cases hj : j < P.cellsOf t
  · rw [(hG j).2 hj]
    simp [hj]
  · rw [Array.getElem?_eq_none (by rw [hsz]; omega), Array.getElem?_eq_none (by simp; omega)]
end
end Go.Proofs.Ytbgepeokadmemaa.F
namespace Go.Proofs.Ytbgepeokadmemaa.F
open Go.ChangeShapes Go.WideShapes Go.ChangeAt Go.RowKit Base
/-- A value of the struct. -/
structure Cel where
  l : Int
  r : Int
  k : Int
  v : Int
  s : Int
  h : Int
def Cel.zero : Cel := ⟨0, 0, 0, 0, 0, 0⟩
/-- Its cells. -/
def Cel.vals (x : Cel) : List Value := [.int .i64 x.l, .int .i64 x.r, .int .i64 x.k, .int .i64 x.v, .int .i64 x.s, .int .i64 x.h]
/-- Its fields are ints of 64 bits. -/
def Cel.ok (x : Cel) : Prop := (-9223372036854775808 ≤ x.l ∧ x.l ≤ 9223372036854775807) ∧ (-9223372036854775808 ≤ x.r ∧ x.r ≤ 9223372036854775807) ∧ (-9223372036854775808 ≤ x.k ∧ x.k ≤ 9223372036854775807) ∧ (-9223372036854775808 ≤ x.v ∧ x.v ≤ 9223372036854775807) ∧ (-9223372036854775808 ≤ x.s ∧ x.s ≤ 9223372036854775807) ∧ (-9223372036854775808 ≤ x.h ∧ x.h ≤ 9223372036854775807)
/-- The slice v, whose elements lie from block base on, holds xs. -/
def Cels (base : Nat) (w : World) (v : Value) (xs : List Cel) : Prop :=
  ((∃ p c, v = .slice p 0 c ∧ (p = none → c = 0)) ∧ xs = []) ∨ ∃ g o c, v = .slice (some ⟨g, o, none⟩) xs.length c ∧ base ≤ g ∧ g < w.heap.size ∧ xs.length ≤ 9223372036854775807 ∧ ∀ k, k < xs.length →
    w.cell? ⟨g, o + k * 6, none⟩ = some (.int .i64 (xs.getD k Cel.zero).l) ∧ w.cell? ⟨g, o + k * 6 + 1, none⟩ = some (.int .i64 (xs.getD k Cel.zero).r) ∧ w.cell? ⟨g, o + k * 6 + 2, none⟩ = some (.int .i64 (xs.getD k Cel.zero).k) ∧ w.cell? ⟨g, o + k * 6 + 3, none⟩ = some (.int .i64 (xs.getD k Cel.zero).v) ∧ w.cell? ⟨g, o + k * 6 + 4, none⟩ = some (.int .i64 (xs.getD k Cel.zero).s) ∧ w.cell? ⟨g, o + k * 6 + 5, none⟩ = some (.int .i64 (xs.getD k Cel.zero).h)
theorem Cels.kept {base base' : Nat} {w w1 : World} {v : Value} {xs : List Cel} (h : Cels base w v xs) (hb : ∀ g, base ≤ g → g < w.heap.size → w1.heap[g]? = w.heap[g]? ∧ base' ≤ g) (hs : w.heap.size ≤ w1.heap.size) : Cels base' w1 v xs := by
  rcases h with h | ⟨g, o, c, hv, h0, h1, h2, h3⟩
  · exact .inl h
  · refine .inr ⟨g, o, c, hv, (hb g h0 h1).2, Nat.lt_of_lt_of_le h1 hs, h2, fun k hk => ?_⟩
    have key : ∀ j, w1.cell? ⟨g, j, none⟩ = w.cell? ⟨g, j, none⟩ := fun j => World.cell?_of_block (a := ⟨g, j, none⟩) (hb g h0 h1).1
    simp only [key]
    exact h3 k hk
theorem Cels.below {base : Nat} {w w1 : World} {v : Value} {xs : List Cel} (h : Cels base w v xs) (hb : Below w.heap.size w w1) : Cels base w1 v xs :=
  h.kept (fun g h0 h1 => ⟨hb.block g h1, h0⟩) hb.size
theorem Cels.grown {base : Nat} {w w1 : World} {v : Value} {xs : List Cel} {x : Option Nat} (h : Cels base w v xs) (hg : w.grownBy w1 x) (hx : ∀ b, x = some b → b < base) : Cels base w1 v xs :=
  h.kept (fun g h0 h1 => ⟨hg.block g h1 (fun e => by have := hx g e.symm; omega), h0⟩) hg.size
theorem Cels.mono {base base' : Nat} {w : World} {v : Value} {xs : List Cel} (h : Cels base w v xs) (hb : base' ≤ base) : Cels base' w v xs :=
  h.kept (fun _ h0 _ => ⟨rfl, Nat.le_trans hb h0⟩) (Nat.le_refl _)
theorem Cels.open_ {base : Nat} {w : World} {v : Value} {xs : List Cel} (h : Cels base w v xs) : ∃ p c, v = .slice p xs.length c ∧ xs.length ≤ 9223372036854775807 ∧ ∀ k, k < xs.length → ∃ g o, p = some ⟨g, o, none⟩ ∧ base ≤ g ∧ g < w.heap.size ∧
    w.cell? ⟨g, o + k * 6, none⟩ = some (.int .i64 (xs.getD k Cel.zero).l) ∧ w.cell? ⟨g, o + k * 6 + 1, none⟩ = some (.int .i64 (xs.getD k Cel.zero).r) ∧ w.cell? ⟨g, o + k * 6 + 2, none⟩ = some (.int .i64 (xs.getD k Cel.zero).k) ∧ w.cell? ⟨g, o + k * 6 + 3, none⟩ = some (.int .i64 (xs.getD k Cel.zero).v) ∧ w.cell? ⟨g, o + k * 6 + 4, none⟩ = some (.int .i64 (xs.getD k Cel.zero).s) ∧ w.cell? ⟨g, o + k * 6 + 5, none⟩ = some (.int .i64 (xs.getD k Cel.zero).h) := by
  rcases h with ⟨⟨p, c, hv⟩, rfl⟩ | ⟨g, o, c, hv, h0, h1, h2, h3⟩
  · exact ⟨p, c, hv.1, by simp, fun k hk => absurd hk (by simp)⟩
  · exact ⟨_, c, hv, h2, fun k hk => ⟨g, o, rfl, h0, h1, h3 k hk⟩⟩
theorem Cels.nil {base : Nat} {w : World} : Cels base w (.slice none 0 0) [] := .inl ⟨⟨_, _, rfl, fun _ => rfl⟩, rfl⟩
theorem cel_flat_len (zs : List Cel) : (zs.flatMap Cel.vals).length = zs.length * 6 := by
  induction zs with
  | nil => rfl
  | cons x zs ih => rw [List.flatMap_cons, List.length_append, ih]; simp [Cel.vals]; omega
theorem cel_flat_get : ∀ (zs : List Cel) (k j : Nat), k < zs.length → j < 6 → (zs.flatMap Cel.vals)[k * 6 + j]? = (Cel.vals (zs.getD k Cel.zero))[j]?
  | x :: zs, 0, j, _, hj => by
    rw [List.flatMap_cons, List.getElem?_append_left (by simp [Cel.vals]; omega)]
    simp
  | x :: zs, k + 1, j, hk, hj => by
    rw [List.flatMap_cons, List.getElem?_append_right (by simp [Cel.vals]; omega), show (k + 1) * 6 + j - (Cel.vals x).length = k * 6 + j by simp [Cel.vals]; omega, cel_flat_get zs k j (by simpa using hk) hj]
    rfl
theorem cel_flat_take (zs : List Cel) (m : Nat) : (zs.flatMap Cel.vals).take (m * 6) = (zs.take m).flatMap Cel.vals := by
  induction zs generalizing m with
  | nil => simp
  | cons x zs ih =>
    cases m with
    | zero => simp
    | succ m =>
      rw [List.flatMap_cons, List.take_succ_cons, List.flatMap_cons, ← ih m, List.take_append, List.take_of_length_le (by simp [Cel.vals]; omega)]
      congr 2
      simp [Cel.vals]; omega
theorem cel_vals_one (zs : List Cel) : ∀ u ∈ zs.flatMap Cel.vals, u.oneCell' = true := by
  intro u hu
  obtain ⟨x, _, hx⟩ := List.mem_flatMap.1 hu
  simp only [Cel.vals, List.mem_cons, List.not_mem_nil, or_false] at hx
  rcases hx with rfl | rfl | rfl | rfl | rfl | rfl <;> rfl
/-- The slice v, which the call made itself from block B on, holds zs. -/
def OwnCel (B : Nat) (w : World) (v : Value) (zs : List Cel) : Prop := w.ownsRow B 66 6 v zs.length (zs.flatMap Cel.vals)
theorem OwnCel.nil (B : Nat) (w : World) : OwnCel B w (.slice none 0 0) [] := World.ownsRow_nil _ _ _ _
theorem OwnCel.list {B : Nat} {w : World} {v : Value} {zs : List Cel} (h : OwnCel B w v zs) (hl : zs.length ≤ 9223372036854775807) : Cels B w v zs := by
  have h' := h
  rcases h.2 with ⟨hv, h0⟩ | ⟨g, cap, cur, hv, hB, h2, _⟩
  · exact .inl ⟨⟨_, _, hv, fun _ => rfl⟩, List.length_eq_zero_iff.1 h0⟩
  · subst hv
    have hc : ∀ k j, k < zs.length → j < 6 → w.cell? ⟨g, 0 + k * 6 + j, none⟩ = (Cel.vals (zs.getD k Cel.zero))[j]? := fun k j hk hj => by
      rw [Nat.zero_add, ← cel_flat_get zs k j hk hj]
      exact World.ownsRow.cellAt h' (k * 6 + j) (by omega)
    exact .inr ⟨g, 0, cap, rfl, hB, heap_lt h2, hl, fun k hk => ⟨hc k 0 hk (by omega), hc k 1 hk (by omega), hc k 2 hk (by omega), hc k 3 hk (by omega), hc k 4 hk (by omega), hc k 5 hk (by omega)⟩⟩
theorem OwnCel.kept {B : Nat} {w w1 : World} {v : Value} {zs : List Cel} (h : OwnCel B w v zs) {row : Option Nat} (hg : w.grownBy w1 row) (hne : v.ownBlock = none ∨ v.ownBlock ≠ row) : OwnCel B w1 v zs := World.ownsRow.kept h hg hne
theorem OwnCel.below {B : Nat} {w w1 : World} {v : Value} {zs : List Cel} (h : OwnCel B w v zs) (hb : Below w.heap.size w w1) : OwnCel B w1 v zs :=
  World.ownsRow.kept h (row := none) ⟨hb.os, hb.tape, hb.output, hb.size, fun k hk _ => hb.block k hk⟩ (by cases v.ownBlock <;> simp)
theorem OwnCel.base {B : Nat} {w : World} {v : Value} {zs : List Cel} (h : OwnCel B w v zs) : ∀ k, v.ownBlock = some k → B ≤ k ∧ k < w.heap.size := World.ownsRow.lt h
/-- The first m of it, in the same place. -/
theorem OwnCel.cut {B : Nat} {w : World} {p : Option Addr} {n c : Nat} {zs : List Cel} (h : OwnCel B w (.slice p n c) zs) {m : Nat} (hm : m ≤ zs.length) : OwnCel B w (.slice p m c) (zs.take m) := by
  obtain ⟨hl, h⟩ := h
  have hlen : (zs.take m).length = m := by rw [List.length_take]; omega
  refine ⟨by rw [cel_flat_len], ?_⟩
  rw [hlen]
  rcases h with ⟨hv, h0⟩ | ⟨g, cap, cur, hv, h1, h2, h3, h4, h5, h6⟩
  · injection hv with e1 e2 e3
    subst e1 e3
    obtain rfl : m = 0 := by omega
    exact .inl ⟨rfl, rfl⟩
  · injection hv with e1 e2 e3
    subst e1 e3
    refine .inr ⟨g, c, cur, rfl, h1, h2, by omega, h4, h5, ?_⟩
    rw [← cel_flat_take, ← h6, List.take_take]
    congr 1
    have := Nat.mul_le_mul_right 6 hm
    omega
theorem cel_info : (Try.prog.info? 66).map (fun i => (i.zero, i.size, i.bytes)) = some (some (.agg #[.int .i64 0, .int .i64 0, .int .i64 0, .int .i64 0, .int .i64 0, .int .i64 0]), 6, 48) := by kernel_rfl
theorem run_append_cels {B base : Nat} {w : World} {v u : Value} {zs ys : List Cel} (ty : TypeId)
    (hB : B ≤ w.heap.size) (hown : OwnCel B w v zs) (hys : Cels base w u ys) (hl : zs.length + ys.length ≤ 1000000) :
    ∃ v' w', (Builtin.append_ #[51, 51] ty #[v, u]).run Try.prog w = .ok v' w' ∧ OwnCel B w' v' (zs ++ ys) ∧ w.grownBy w' v.ownBlock ∧ (v'.ownBlock = v.ownBlock ∨ v'.ownBlock = some w.heap.size) := by
  obtain ⟨i0, hi, hz0, hz1, hz2⟩ := info_parts cel_info
  rcases hys with ⟨⟨p, c, rfl, hpc⟩, rfl⟩ | ⟨g, o', c, rfl, _, _, _, hc⟩
  · cases p with
    | none =>
      obtain rfl := hpc rfl
      exact ⟨v, w, run_append_owned_none (P := Try.prog) (w := w) B 51 ty 66 i0 6 Try.underlying51 hi v zs.length (zs.flatMap Cel.vals) hown, by rw [List.append_nil]; exact hown, World.grownBy.refl _ _, .inl rfl⟩
    | some ad =>
      obtain ⟨v', w', hr, h2, h3, _, h5⟩ := run_append_own_at (P := Try.prog) w B 51 ty 66 i0 (.agg #[.int .i64 0, .int .i64 0, .int .i64 0, .int .i64 0, .int .i64 0, .int .i64 0]) 6 48 Try.underlying51 hi hz0 hz1 hz2 rfl (by decide) v zs.length (zs.flatMap Cel.vals) hown ad 0 c [] (by simp) (by simp) (by simp) (by simp only [maxLen]; omega) (by omega) hB
      refine ⟨v', w', hr, ?_, h3, h5⟩
      rw [List.append_nil]
      unfold OwnCel
      simpa using h2
  · obtain ⟨v', w', hr, h2, h3, _, h5⟩ := run_append_own_at (P := Try.prog) w B 51 ty 66 i0 (.agg #[.int .i64 0, .int .i64 0, .int .i64 0, .int .i64 0, .int .i64 0, .int .i64 0]) 6 48 Try.underlying51 hi hz0 hz1 hz2 rfl (by decide) v zs.length (zs.flatMap Cel.vals) hown ⟨g, o', none⟩ ys.length c (ys.flatMap Cel.vals) (cel_flat_len ys) (by
      intro t y hy
      have ht : t < ys.length * 6 := by rw [← cel_flat_len ys]; exact (List.getElem?_eq_some_iff.1 hy).1
      have hk : t / 6 < ys.length := by omega
      have hr : t % 6 < 6 := Nat.mod_lt _ (by decide)
      have e : t = t / 6 * 6 + t % 6 := by omega
      have hcc := hc (t / 6) hk
      rw [e, cel_flat_get ys _ _ hk hr] at hy
      rw [add_plain, e]
      generalize t / 6 = k at hcc hy
      generalize t % 6 = j at hr hy
      obtain ⟨c0, c1, c2, c3, c4, c5⟩ := hcc
      match j, hr, hy with
      | 0, _, hy => simp [Cel.vals] at hy; subst hy; simpa [Nat.add_assoc] using c0
      | 1, _, hy => simp [Cel.vals] at hy; subst hy; simpa [Nat.add_assoc] using c1
      | 2, _, hy => simp [Cel.vals] at hy; subst hy; simpa [Nat.add_assoc] using c2
      | 3, _, hy => simp [Cel.vals] at hy; subst hy; simpa [Nat.add_assoc] using c3
      | 4, _, hy => simp [Cel.vals] at hy; subst hy; simpa [Nat.add_assoc] using c4
      | 5, _, hy => simp [Cel.vals] at hy; subst hy; simpa [Nat.add_assoc] using c5) (cel_vals_one ys) (by simp only [maxLen]; omega) (by omega) hB
    refine ⟨v', w', hr, ?_, h3, h5⟩
    unfold OwnCel
    rw [List.length_append, List.flatMap_append]
    exact h2
/-- Some are put behind a slice of the call's own. -/
theorem append_cels {ops : Array Oper} {rest : List Oper} {o : Oper} {a : Act} {Q : Exit → Act → World → Prop} (hgd : o.guard = none) (s x : Operand)
    (ho : o.op = .call { callee := .builtin .append, args := #[s, x], argTypes := #[51, 51] }) {B base : Nat} {w : World} {v u : Value} {zs ys : List Cel}
    (hB : B ≤ w.heap.size) (hown : OwnCel B w v zs) (hs : a.eval s = v) (hys : Cels base w u ys) (hx : a.eval x = u) (hl : zs.length + ys.length ≤ 1000000)
    (h : ∀ v' w', OwnCel B w' v' (zs ++ ys) → w.grownBy w' v.ownBlock → (v'.ownBlock = v.ownBlock ∨ v'.ownBlock = some w.heap.size) → wpList Try.prog ops Q rest (a.put o.dst v') w') :
    wpList Try.prog ops Q (o :: rest) a w := by
  refine wpList_plain hgd fun K hK => ?_
  obtain ⟨v', w', hr, h2, h3, h5⟩ := run_append_cels o.type hB hown hys hl
  unfold Oper.wp execOp
  simp only [ho, resolve, invoke, builtin, Sem.run_bind, Sem.run_pure, Result.andThen_ok, List.map_toArray, List.map_cons, List.map_nil, hs, hx, hr]
  exact hK _ _ (h v' w' h2 h3 h5)
/-- The same, as one step of a region that draws its order. -/
theorem step_append_cels {ops : Array Oper} {o : Oper} {a : Act} {w : World} {K : Act → World → Prop} {Q : Exit → Act → World → Prop} {E : Prop} (hgd : o.guard = none) (s x : Operand)
    (ho : o.op = .call { callee := .builtin .append, args := #[s, x], argTypes := #[51, 51] }) {B base : Nat} {v u : Value} {zs ys : List Cel}
    (hB : B ≤ w.heap.size) (hown : OwnCel B w v zs) (hs : a.eval s = v) (hys : Cels base w u ys) (hx : a.eval x = u) (hl : zs.length + ys.length ≤ 1000000)
    (hK : ∀ v' w', OwnCel B w' v' (zs ++ ys) → w.grownBy w' v.ownBlock → (v'.ownBlock = v.ownBlock ∨ v'.ownBlock = some w.heap.size) → K (a.put o.dst v') w') :
    if Region.wanted o (yielded ops a.tmps) = true then Oper.wp Try.prog o a w K Q else E := by
  rw [if_pos (by simp [Region.wanted, hgd])]
  obtain ⟨v', w', hr, h2, h3, h5⟩ := run_append_cels o.type hB hown hys hl
  unfold Oper.wp
  simp [execOp, ho, resolve, invoke, builtin, hs, hx, hr, Result.andThen]
  exact hK v' w' h2 h3 h5
theorem OwnCel.lay {B : Nat} {w X : World} {v : Value} {zs : List Cel} (h : OwnCel B w v zs) (hx : X.heap = w.heap) (o : Obj) : OwnCel B (X.alloc o) v zs := by
  have h1 : OwnCel B X v zs := by
    unfold OwnCel World.ownsRow at *
    rw [hx]
    exact h
  exact World.ownsRow.alloc h1 o
theorem ownCel_empty {B : Nat} {W : World} {g : Nat} (hB : B ≤ g) (h : W.heap[g]? = some (.cells #[] 66)) : OwnCel B W (.slice (some ⟨g, 0, none⟩) 0 0) [] :=
  ⟨rfl, .inr ⟨g, 0, #[], rfl, hB, h, Nat.le_refl _, by simp [maxLen], rfl, rfl⟩⟩
/-- One that is typed out. -/
theorem cel_at {X : World} {g : Nat} (c : Cel) (h : X.heap[g]? = some (.cells #[.int .i64 c.l, .int .i64 c.r, .int .i64 c.k, .int .i64 c.v, .int .i64 c.s, .int .i64 c.h] 66)) : Cels 0 X (.slice (some ⟨g, 0, none⟩) 1 1) [c] := by
  refine .inr ⟨g, 0, 1, rfl, Nat.zero_le _, heap_lt h, by simp, fun k hk => ?_⟩
  have : k = 0 := by simpa using hk
  subst this
  simp only [World.cell?, h]
  simp
theorem cel_lit (c : Cel) (X : World) : Cels 0 (X.alloc (.cells #[.int .i64 c.l, .int .i64 c.r, .int .i64 c.k, .int .i64 c.v, .int .i64 c.s, .int .i64 c.h] 66)) (.slice (some ⟨X.heap.size, 0, none⟩) 1 1) [c] := cel_at c (heap_alloc_at _ _ _ rfl)

theorem cel_flat : flatB Try.prog 8 66 = true := by kernel_rfl
theorem cel_cells : Try.prog.cellsOf 66 = 6 := by kernel_rfl
section
variable {H : Type} {enc : TypeId × Value → H} {w : World}
set_option maxRecDepth 100000 in
theorem open_cels {r : Reach} {b0 : Nat} {v : Value} {d : DataW H} {p : List MemPlace} (hv : Value.okWide Try.prog w r b0 51 v) (h : DataW.Trod enc Try.prog w 0 (fun _ => true) true 51 v d p) : ∃ xs, (∃ p c, v = .slice p xs.length c ∧ xs.length ≤ c) ∧ Cels 0 w v xs ∧ ∀ x ∈ xs, Cel.ok x := by
  obtain ⟨q, len, cap, G, rfl, hqc, hlc, hl, hG, hc⟩ := open_flat Try.underlying51 cel_flat (by rw [cel_cells]; decide) hv h
  rw [cel_cells] at hc
  have hlen : ((List.range len).map fun k => (⟨G k 0, G k 1, G k 2, G k 3, G k 4, G k 5⟩ : Cel)).length = len := by simp
  refine ⟨(List.range len).map fun k => ⟨G k 0, G k 1, G k 2, G k 3, G k 4, G k 5⟩, ⟨q, cap, by rw [hlen], by rw [hlen]; exact hlc⟩, ?_, fun x hx => ?_⟩
  · by_cases h0 : len = 0
    · subst h0
      exact .inl ⟨⟨_, _, rfl, hqc⟩, rfl⟩
    · obtain ⟨g, o, hq, hg, _⟩ := hc 0 (by omega)
      subst hq
      refine .inr ⟨g, o, cap, by rw [hlen], Nat.zero_le _, hg, by rw [hlen]; exact hl, fun k hk => ?_⟩
      rw [hlen] at hk
      obtain ⟨g', o', hq, _, hcc⟩ := hc k hk
      simp only [Option.some.injEq, Addr.mk.injEq, and_true] at hq
      obtain ⟨rfl, rfl⟩ := hq
      have hget : ((List.range len).map fun k => (⟨G k 0, G k 1, G k 2, G k 3, G k 4, G k 5⟩ : Cel)).getD k Cel.zero = ⟨G k 0, G k 1, G k 2, G k 3, G k 4, G k 5⟩ := by simp [List.getD_eq_getElem?_getD, hk]
      rw [hget]
      exact ⟨hcc 0 (by omega), hcc 1 (by omega), hcc 2 (by omega), hcc 3 (by omega), hcc 4 (by omega), hcc 5 (by omega)⟩
  · obtain ⟨k, _, rfl⟩ := List.mem_map.1 hx
    exact ⟨hG k 0, hG k 1, hG k 2, hG k 3, hG k 4, hG k 5⟩
set_option maxRecDepth 100000 in
theorem open_cel {r : Reach} {b0 : Nat} {v : Value} {d : DataW H} {p : List MemPlace} {base : Nat} {spare : Nat → Bool} {held : Bool} (hv : Value.okWide Try.prog w r b0 66 v) (h : DataW.Trod enc Try.prog w base spare held 66 v d p) : ∃ x : Cel, Cel.ok x ∧ v = .agg #[.int .i64 x.l, .int .i64 x.r, .int .i64 x.k, .int .i64 x.v, .int .i64 x.s, .int .i64 x.h] := by
  obtain ⟨G, hG, hv'⟩ := open_flat1 Try.underlying66 cel_flat hv h
  rw [cel_cells] at hv'
  exact ⟨⟨G 0, G 1, G 2, G 3, G 4, G 5⟩, ⟨hG 0, hG 1, hG 2, hG 3, hG 4, hG 5⟩, hv'⟩
end
end Go.Proofs.Ytbgepeokadmemaa.F
namespace Go.Proofs.Ytbgepeokadmemaa.F
open Go.ChangeShapes Go.WideShapes Go.ChangeAt Go.RowKit Base
/-- A value of the struct. -/
structure Pai where
  k : Int
  v : Int
def Pai.zero : Pai := ⟨0, 0⟩
/-- Its cells. -/
def Pai.vals (x : Pai) : List Value := [.int .i64 x.k, .int .i64 x.v]
/-- Its fields are ints of 64 bits. -/
def Pai.ok (x : Pai) : Prop := (-9223372036854775808 ≤ x.k ∧ x.k ≤ 9223372036854775807) ∧ (-9223372036854775808 ≤ x.v ∧ x.v ≤ 9223372036854775807)
/-- The slice v, whose elements lie from block base on, holds xs. -/
def Pais (base : Nat) (w : World) (v : Value) (xs : List Pai) : Prop :=
  ((∃ p c, v = .slice p 0 c ∧ (p = none → c = 0)) ∧ xs = []) ∨ ∃ g o c, v = .slice (some ⟨g, o, none⟩) xs.length c ∧ base ≤ g ∧ g < w.heap.size ∧ xs.length ≤ 9223372036854775807 ∧ ∀ k, k < xs.length →
    w.cell? ⟨g, o + k * 2, none⟩ = some (.int .i64 (xs.getD k Pai.zero).k) ∧ w.cell? ⟨g, o + k * 2 + 1, none⟩ = some (.int .i64 (xs.getD k Pai.zero).v)
theorem Pais.kept {base base' : Nat} {w w1 : World} {v : Value} {xs : List Pai} (h : Pais base w v xs) (hb : ∀ g, base ≤ g → g < w.heap.size → w1.heap[g]? = w.heap[g]? ∧ base' ≤ g) (hs : w.heap.size ≤ w1.heap.size) : Pais base' w1 v xs := by
  rcases h with h | ⟨g, o, c, hv, h0, h1, h2, h3⟩
  · exact .inl h
  · refine .inr ⟨g, o, c, hv, (hb g h0 h1).2, Nat.lt_of_lt_of_le h1 hs, h2, fun k hk => ?_⟩
    have key : ∀ j, w1.cell? ⟨g, j, none⟩ = w.cell? ⟨g, j, none⟩ := fun j => World.cell?_of_block (a := ⟨g, j, none⟩) (hb g h0 h1).1
    simp only [key]
    exact h3 k hk
theorem Pais.below {base : Nat} {w w1 : World} {v : Value} {xs : List Pai} (h : Pais base w v xs) (hb : Below w.heap.size w w1) : Pais base w1 v xs :=
  h.kept (fun g h0 h1 => ⟨hb.block g h1, h0⟩) hb.size
theorem Pais.grown {base : Nat} {w w1 : World} {v : Value} {xs : List Pai} {x : Option Nat} (h : Pais base w v xs) (hg : w.grownBy w1 x) (hx : ∀ b, x = some b → b < base) : Pais base w1 v xs :=
  h.kept (fun g h0 h1 => ⟨hg.block g h1 (fun e => by have := hx g e.symm; omega), h0⟩) hg.size
theorem Pais.mono {base base' : Nat} {w : World} {v : Value} {xs : List Pai} (h : Pais base w v xs) (hb : base' ≤ base) : Pais base' w v xs :=
  h.kept (fun _ h0 _ => ⟨rfl, Nat.le_trans hb h0⟩) (Nat.le_refl _)
theorem Pais.open_ {base : Nat} {w : World} {v : Value} {xs : List Pai} (h : Pais base w v xs) : ∃ p c, v = .slice p xs.length c ∧ xs.length ≤ 9223372036854775807 ∧ ∀ k, k < xs.length → ∃ g o, p = some ⟨g, o, none⟩ ∧ base ≤ g ∧ g < w.heap.size ∧
    w.cell? ⟨g, o + k * 2, none⟩ = some (.int .i64 (xs.getD k Pai.zero).k) ∧ w.cell? ⟨g, o + k * 2 + 1, none⟩ = some (.int .i64 (xs.getD k Pai.zero).v) := by
  rcases h with ⟨⟨p, c, hv⟩, rfl⟩ | ⟨g, o, c, hv, h0, h1, h2, h3⟩
  · exact ⟨p, c, hv.1, by simp, fun k hk => absurd hk (by simp)⟩
  · exact ⟨_, c, hv, h2, fun k hk => ⟨g, o, rfl, h0, h1, h3 k hk⟩⟩
theorem Pais.nil {base : Nat} {w : World} : Pais base w (.slice none 0 0) [] := .inl ⟨⟨_, _, rfl, fun _ => rfl⟩, rfl⟩
theorem pai_flat_len (zs : List Pai) : (zs.flatMap Pai.vals).length = zs.length * 2 := by
  induction zs with
  | nil => rfl
  | cons x zs ih => rw [List.flatMap_cons, List.length_append, ih]; simp [Pai.vals]; omega
theorem pai_flat_get : ∀ (zs : List Pai) (k j : Nat), k < zs.length → j < 2 → (zs.flatMap Pai.vals)[k * 2 + j]? = (Pai.vals (zs.getD k Pai.zero))[j]?
  | x :: zs, 0, j, _, hj => by
    rw [List.flatMap_cons, List.getElem?_append_left (by simp [Pai.vals]; omega)]
    simp
  | x :: zs, k + 1, j, hk, hj => by
    rw [List.flatMap_cons, List.getElem?_append_right (by simp [Pai.vals]; omega), show (k + 1) * 2 + j - (Pai.vals x).length = k * 2 + j by simp [Pai.vals]; omega, pai_flat_get zs k j (by simpa using hk) hj]
    rfl
theorem pai_flat_take (zs : List Pai) (m : Nat) : (zs.flatMap Pai.vals).take (m * 2) = (zs.take m).flatMap Pai.vals := by
  induction zs generalizing m with
  | nil => simp
  | cons x zs ih =>
    cases m with
    | zero => simp
    | succ m =>
      rw [List.flatMap_cons, List.take_succ_cons, List.flatMap_cons, ← ih m, List.take_append, List.take_of_length_le (by simp [Pai.vals]; omega)]
      congr 2
      simp [Pai.vals]; omega
theorem pai_vals_one (zs : List Pai) : ∀ u ∈ zs.flatMap Pai.vals, u.oneCell' = true := by
  intro u hu
  obtain ⟨x, _, hx⟩ := List.mem_flatMap.1 hu
  simp only [Pai.vals, List.mem_cons, List.not_mem_nil, or_false] at hx
  rcases hx with rfl | rfl <;> rfl
section
variable {H : Type} {enc : TypeId × Value → H} {w : World}
end
end Go.Proofs.Ytbgepeokadmemaa.F
namespace Go.Proofs.Ytbgepeokadmemaa.F
/-- A tree of pairs. -/
inductive Tre where
  | nil
  | node (l : Tre) (k v : Int) (r : Tre)
namespace Tre
def size : Tre → Nat
  | nil => 0
  | node l _ _ r => l.size + 1 + r.size
def high : Tre → Nat
  | nil => 0
  | node l _ _ r => 1 + max l.high r.high
def list : Tre → List Pai
  | nil => []
  | node l k v r => l.list ++ ⟨k, v⟩ :: r.list
def bal : Tre → Prop
  | nil => True
  | node l _ _ r => l.bal ∧ r.bal ∧ l.high ≤ r.high + 1 ∧ r.high ≤ l.high + 1
theorem list_len (t : Tre) : t.list.length = t.size := by
  induction t with
  | nil => rfl
  | node l k v r h1 h2 => simp [list, size, h1, h2]; omega
theorem high_le_size (t : Tre) : t.high ≤ t.size := by
  induction t with
  | nil => simp [high]
  | node l k v r h1 h2 => simp only [high, size]; omega
/-- Two trees and what is between them, turned where they are not alike in height. -/
def turnR (l : Tre) (k v : Int) (r : Tre) : Tre := match l with
  | nil => node nil k v r
  | node ll lk lv lr => if lr.high ≤ ll.high then node ll lk lv (node lr k v r) else match lr with
    | nil => node (node ll lk lv nil) k v r
    | node m1 mk mv m2 => node (node ll lk lv m1) mk mv (node m2 k v r)
def turnL (l : Tre) (k v : Int) (r : Tre) : Tre := match r with
  | nil => node l k v nil
  | node rl rk rv rr => if rl.high ≤ rr.high then node (node l k v rl) rk rv rr else match rl with
    | nil => node l k v (node nil rk rv rr)
    | node m1 mk mv m2 => node (node l k v m1) mk mv (node m2 rk rv rr)
def lev (l : Tre) (k v : Int) (r : Tre) : Tre :=
  if r.high + 1 < l.high then turnR l k v r else if l.high + 1 < r.high then turnL l k v r else node l k v r
theorem turnR_list (l : Tre) (k v : Int) (r : Tre) : (turnR l k v r).list = l.list ++ ⟨k, v⟩ :: r.list := by
  unfold turnR
  split
  · rfl
  · split
    · simp [list]
    · split <;> simp [list]
theorem turnL_list (l : Tre) (k v : Int) (r : Tre) : (turnL l k v r).list = l.list ++ ⟨k, v⟩ :: r.list := by
  unfold turnL
  split
  · rfl
  · split
    · simp [list]
    · split <;> simp [list]
theorem lev_list (l : Tre) (k v : Int) (r : Tre) : (lev l k v r).list = l.list ++ ⟨k, v⟩ :: r.list := by
  unfold lev
  split
  · exact turnR_list ..
  · split
    · exact turnL_list ..
    · rfl
theorem turnR_bal {l r : Tre} (k v : Int) (hl : l.bal) (hr : r.bal) (h : l.high = r.high + 2) : (turnR l k v r).bal ∧ l.high ≤ (turnR l k v r).high ∧ (turnR l k v r).high ≤ l.high + 1 := by
  unfold turnR
  cases l with
  | nil => simp [high] at h
  | node ll lk lv lr =>
    simp only [bal, high] at hl h ⊢
    split
    · simp only [bal, high]; obtain ⟨h1, h2, h3, h4⟩ := hl; refine ⟨⟨h1, ⟨h2, hr, ?_, ?_⟩, ?_, ?_⟩, ?_, ?_⟩ <;> omega
    · cases lr with
      | nil => simp only [high] at *; omega
      | node m1 mk mv m2 =>
        simp only [bal, high] at *; obtain ⟨h1, ⟨h21, h22, h23, h24⟩, h3, h4⟩ := hl; refine ⟨⟨⟨h1, h21, ?_, ?_⟩, ⟨h22, hr, ?_, ?_⟩, ?_, ?_⟩, ?_, ?_⟩ <;> omega
theorem turnL_bal {l r : Tre} (k v : Int) (hl : l.bal) (hr : r.bal) (h : r.high = l.high + 2) : (turnL l k v r).bal ∧ r.high ≤ (turnL l k v r).high ∧ (turnL l k v r).high ≤ r.high + 1 := by
  unfold turnL
  cases r with
  | nil => simp [high] at h
  | node rl rk rv rr =>
    simp only [bal, high] at hr h ⊢
    split
    · simp only [bal, high]; obtain ⟨h1, h2, h3, h4⟩ := hr; refine ⟨⟨⟨hl, h1, ?_, ?_⟩, h2, ?_, ?_⟩, ?_, ?_⟩ <;> omega
    · cases rl with
      | nil => simp only [high] at *; omega
      | node m1 mk mv m2 =>
        simp only [bal, high] at *; obtain ⟨⟨h11, h12, h13, h14⟩, h2, h3, h4⟩ := hr; refine ⟨⟨⟨hl, h11, ?_, ?_⟩, ⟨h12, h2, ?_, ?_⟩, ?_, ?_⟩, ?_, ?_⟩ <;> omega
theorem lev_bal {l r : Tre} (k v : Int) (hl : l.bal) (hr : r.bal) (h1 : l.high ≤ r.high + 2) (h2 : r.high ≤ l.high + 2) : (lev l k v r).bal ∧ max l.high r.high ≤ (lev l k v r).high ∧ (lev l k v r).high ≤ max l.high r.high + 1 := by
  unfold lev
  split
  · have := turnR_bal k v hl hr (by omega); refine ⟨this.1, ?_, ?_⟩ <;> omega
  · split
    · have := turnL_bal k v hl hr (by omega); refine ⟨this.1, ?_, ?_⟩ <;> omega
    · simp only [bal, high]; refine ⟨⟨hl, hr, ?_, ?_⟩, ?_, ?_⟩ <;> omega
theorem lev_high {l r : Tre} (k v : Int) (h1 : l.high ≤ r.high + 1) (h2 : r.high ≤ l.high + 1) : lev l k v r = node l k v r := by
  unfold lev
  rw [if_neg (by omega), if_neg (by omega)]
/-- A pair put in. -/
def ins (key val : Int) : Tre → Tre
  | nil => node nil key val nil
  | node l k v r => if key < k then lev (ins key val l) k v r else if k < key then lev l k v (ins key val r) else lev l k val r
theorem ins_bal (key val : Int) {t : Tre} (h : t.bal) : (ins key val t).bal ∧ t.high ≤ (ins key val t).high ∧ (ins key val t).high ≤ t.high + 1 := by
  induction t with
  | nil => simp [ins, bal, high]
  | node l k v r h1 h2 =>
    simp only [bal] at h
    obtain ⟨hl, hr, h3, h4⟩ := h
    have h1 := h1 hl
    have h2 := h2 hr
    simp only [ins]
    split
    · by_cases e : (ins key val l).high ≤ r.high + 1
      · rw [lev_high _ _ (by omega) (by omega)]; simp only [bal, high]; refine ⟨⟨h1.1, hr, ?_, ?_⟩, ?_, ?_⟩ <;> omega
      · have := lev_bal k v h1.1 hr (by omega) (by omega); simp only [high]; refine ⟨this.1, ?_, ?_⟩ <;> omega
    · split
      · by_cases e : (ins key val r).high ≤ l.high + 1
        · rw [lev_high _ _ (by omega) (by omega)]; simp only [bal, high]; refine ⟨⟨hl, h2.1, ?_, ?_⟩, ?_, ?_⟩ <;> omega
        · have := lev_bal k v hl h2.1 (by omega) (by omega); simp only [high]; refine ⟨this.1, ?_, ?_⟩ <;> omega
      · rw [lev_high _ _ (by omega) (by omega)]; simp only [bal, high]; refine ⟨⟨hl, hr, ?_, ?_⟩, ?_, ?_⟩ <;> omega
/-- The first pair, and a tree of the others. -/
def pop : Tre → Pai × Tre
  | nil => (Pai.zero, nil)
  | node nil k v r => (⟨k, v⟩, r)
  | node (node a b c d) k v r => ((pop (node a b c d)).1, lev (pop (node a b c d)).2 k v r)
theorem pop_node (l : Tre) (k v : Int) (r : Tre) (h : l ≠ nil) : pop (node l k v r) = ((pop l).1, lev (pop l).2 k v r) := by
  cases l with
  | nil => exact absurd rfl h
  | node => rfl
theorem pop_list {t : Tre} (h : t ≠ nil) : t.list = (pop t).1 :: (pop t).2.list := by
  induction t with
  | nil => exact absurd rfl h
  | node l k v r h1 _ =>
    cases l with
    | nil => rfl
    | node a b c d =>
      have := h1 (by simp)
      rw [pop_node _ _ _ _ (by simp), lev_list, list, this]
      rfl
theorem pop_bal {t : Tre} (h : t.bal) (hn : t ≠ nil) : (pop t).2.bal ∧ t.high ≤ (pop t).2.high + 1 ∧ (pop t).2.high ≤ t.high := by
  induction t with
  | nil => exact absurd rfl hn
  | node l k v r h1 _ =>
    simp only [bal] at h
    obtain ⟨hl, hr, h3, h4⟩ := h
    cases l with
    | nil => simp only [pop, high] at *; refine ⟨hr, ?_, ?_⟩ <;> omega
    | node a b c d =>
      have h1 := h1 hl (by simp)
      rw [pop_node _ _ _ _ (by simp)]
      generalize node a b c d = l at *
      simp only [high]
      by_cases e : r.high ≤ (pop l).2.high + 1
      · rw [lev_high _ _ (by omega) (by omega)]; simp only [bal, high]; refine ⟨⟨h1.1, hr, ?_, ?_⟩, ?_, ?_⟩ <;> omega
      · have := lev_bal k v h1.1 hr (by omega) (by omega); refine ⟨this.1, ?_, ?_⟩ <;> omega
/-- A key taken out. -/
def del (key : Int) : Tre → Tre
  | nil => nil
  | node l k v r => if key < k then lev (del key l) k v r else if k < key then lev l k v (del key r)
    else match l with
      | nil => r
      | node a b c d => match r with
        | nil => node a b c d
        | node e f g h => lev (node a b c d) (pop (node e f g h)).1.k (pop (node e f g h)).1.v (pop (node e f g h)).2
theorem del_eq (l : Tre) (k v : Int) (r : Tre) (hl : l ≠ nil) (hr : r ≠ nil) : del k (node l k v r) = lev l (pop r).1.k (pop r).1.v (pop r).2 := by
  cases l with
  | nil => exact absurd rfl hl
  | node => cases r with
    | nil => exact absurd rfl hr
    | node => simp [del]
theorem del_bal (key : Int) {t : Tre} (h : t.bal) : (del key t).bal ∧ t.high ≤ (del key t).high + 1 ∧ (del key t).high ≤ t.high := by
  induction t with
  | nil => simp [del, bal, high]
  | node l k v r h1 h2 =>
    simp only [bal] at h
    obtain ⟨hl, hr, h3, h4⟩ := h
    have h1 := h1 hl
    have h2 := h2 hr
    by_cases c1 : key < k
    · simp only [del, if_pos c1]
      by_cases e : r.high ≤ (del key l).high + 1
      · rw [lev_high _ _ (by omega) (by omega)]; simp only [bal, high]; refine ⟨⟨h1.1, hr, ?_, ?_⟩, ?_, ?_⟩ <;> omega
      · have := lev_bal k v h1.1 hr (by omega) (by omega); simp only [high]; refine ⟨this.1, ?_, ?_⟩ <;> omega
    · by_cases c2 : k < key
      · simp only [del, if_neg c1, if_pos c2]
        by_cases e : l.high ≤ (del key r).high + 1
        · rw [lev_high _ _ (by omega) (by omega)]; simp only [bal, high]; refine ⟨⟨hl, h2.1, ?_, ?_⟩, ?_, ?_⟩ <;> omega
        · have := lev_bal k v hl h2.1 (by omega) (by omega); simp only [high]; refine ⟨this.1, ?_, ?_⟩ <;> omega
      · obtain rfl : key = k := by omega
        by_cases e1 : l = nil
        · subst e1; simp only [del, if_neg c1, high] at *; refine ⟨hr, ?_, ?_⟩ <;> omega
        · by_cases e2 : r = nil
          · subst e2
            cases l with
            | nil => exact absurd rfl e1
            | node => simp only [del, if_neg c1, high] at *; refine ⟨hl, ?_, ?_⟩ <;> omega
          · rw [del_eq _ _ _ _ e1 e2]
            have h5 := pop_bal hr e2
            by_cases e : l.high ≤ (pop r).2.high + 1
            · rw [lev_high _ _ (by omega) (by omega)]; simp only [bal, high]; refine ⟨⟨hl, h5.1, ?_, ?_⟩, ?_, ?_⟩ <;> omega
            · have := lev_bal (pop r).1.k (pop r).1.v hl h5.1 (by omega) (by omega); simp only [high]; refine ⟨this.1, ?_, ?_⟩ <;> omega
end Tre
end Go.Proofs.Ytbgepeokadmemaa.F
namespace Go.Proofs.Ytbgepeokadmemaa.F
open Go.ChangeShapes Go.WideShapes Go.ChangeAt Go.RowKit Base
/-- The pairs without a key. -/
def delL (key : Int) (l : List Pai) : List Pai := l.filter fun p => !(p.k == key)
def hasL (key : Int) (l : List Pai) : Bool := l.any fun p => p.k == key
theorem pai_take {l : List Pai} {k : Nat} (hk : k < l.length) : l.take (k + 1) = l.take k ++ [l.getD k Pai.zero] := by
  rw [List.take_succ_eq_append_getElem hk, List.getD_eq_getElem?_getD, List.getElem?_eq_getElem hk]
  rfl
theorem delL_snoc (key : Int) (l : List Pai) (p : Pai) : delL key (l ++ [p]) = if (p.k == key) = true then delL key l else delL key l ++ [p] := by
  unfold delL
  rw [List.filter_append]
  cases h : p.k == key <;> simp [h]
theorem hasL_snoc (key : Int) (l : List Pai) (p : Pai) : hasL key (l ++ [p]) = (hasL key l || (p.k == key)) := by
  unfold hasL
  simp
theorem delL_len (key : Int) (l : List Pai) : (delL key l).length ≤ l.length := List.length_filter_le _ _
end Go.Proofs.Ytbgepeokadmemaa.F
namespace Go.Proofs.Ytbgepeokadmemaa.F
open Go.ChangeShapes Go.WideShapes Go.ChangeAt Go.RowKit Base
/-- Are two alike? -/
def Pai.beq (x y : Pai) : Bool := decide (x.k = y.k) && decide (x.v = y.v)
theorem Pai.beq_iff (x y : Pai) : Pai.beq x y = true ↔ x = y := by
  unfold Pai.beq
  constructor
  · intro h
    simp only [Bool.and_eq_true, decide_eq_true_eq] at h
    cases x; cases y
    simp_all
  · intro h
    subst h
    simp
theorem Pai.beq_self (x : Pai) : Pai.beq x x = true := (Pai.beq_iff x x).2 rfl
end Go.Proofs.Ytbgepeokadmemaa.F
namespace Go.Proofs.Ytbgepeokadmemaa.F
open Go.ChangeShapes Go.WideShapes Go.ChangeAt Go.RowKit Base
/-- Are two lists of pairs one? -/
def sameL (a b : List Pai) : Bool := decide (a.length = b.length) && (List.range a.length).all fun k => Pai.beq (a.getD k Pai.zero) (b.getD k Pai.zero)
theorem sameL_iff (a b : List Pai) : sameL a b = true ↔ a = b := by
  unfold sameL
  rw [Bool.and_eq_true, decide_eq_true_eq, List.all_eq_true]
  constructor
  · rintro ⟨h1, h2⟩
    apply List.ext_getElem h1
    intro k ha hb
    have := (Pai.beq_iff _ _).1 (h2 k (List.mem_range.2 ha))
    simpa [List.getD_eq_getElem?_getD, ha, hb] using this
  · rintro rfl
    exact ⟨rfl, fun k _ => Pai.beq_self _⟩
/-- What a call that tells a bool, and draws, leaves. -/
def BoolDrew (is : Bool) (w : World) (e : Ending) (w' : World) : Prop := e = .returned (.bool is) ∧ ∃ n, w' = w.drewN n
end Go.Proofs.Ytbgepeokadmemaa.F
namespace Go.Proofs.Ytbgepeokadmemaa.F
open Go.ChangeShapes Go.WideShapes Go.ChangeAt Go.RowKit Base
/-- A key's value, and whether it is there. -/
def getL (key : Int) (l : List Pai) : Int × Bool := match l.find? fun p => p.k == key with
  | some p => (p.v, true)
  | none => (0, false)
theorem pai_split {l : List Pai} {k : Nat} (hk : k < l.length) : l = l.take k ++ l.getD k Pai.zero :: l.drop (k + 1) := by
  have h1 : l.getD k Pai.zero = l[k] := by rw [List.getD_eq_getElem?_getD, List.getElem?_eq_getElem hk]; rfl
  rw [h1, ← List.drop_eq_getElem_cons hk, List.take_append_drop]
theorem getL_hit {l : List Pai} {k : Nat} {key : Int} (hk : k < l.length) (h : hasL key (l.take k) = false) (hx : ((l.getD k Pai.zero).k == key) = true) : getL key l = ((l.getD k Pai.zero).v, true) := by
  have h1 : (l.take k).find? (fun p => p.k == key) = none := by
    rw [List.find?_eq_none]
    intro x hx h2
    have : hasL key (l.take k) = true := List.any_eq_true.2 ⟨x, hx, h2⟩
    rw [h] at this
    cases this
  unfold getL
  have h3 : l.find? (fun p => p.k == key) = some (l.getD k Pai.zero) := by
    generalize hg : l.getD k Pai.zero = x at hx ⊢
    have hs := pai_split hk
    rw [hg] at hs
    rw [hs, List.find?_append, h1, List.find?_cons, hx]
    rfl
  rw [h3]
theorem getL_none {l : List Pai} {key : Int} (h : hasL key l = false) : getL key l = (0, false) := by
  have h1 : l.find? (fun p => p.k == key) = none := by
    rw [List.find?_eq_none]
    intro x hx h2
    have : hasL key l = true := List.any_eq_true.2 ⟨x, hx, h2⟩
    rw [h] at this
    cases this
  unfold getL
  rw [h1]
/-- What a call that tells a number and a bool, and may make memory, leaves. -/
def IntBool (i : Int) (is : Bool) (w : World) (e : Ending) (w' : World) : Prop := e = .returned (.tuple #[.int .i64 i, .bool is]) ∧ Below w.heap.size w w'
def IntPost (i : Int) (w : World) (e : Ending) (w' : World) : Prop := e = .returned (.int .i64 i) ∧ Below w.heap.size w w'
def BoolPost (is : Bool) (w : World) (e : Ending) (w' : World) : Prop := e = .returned (.bool is) ∧ Below w.heap.size w w'
/-- How many keys are less. -/
def rankL (key : Int) (l : List Pai) : Nat := l.countP fun p => decide (p.k < key)
theorem rankL_snoc (key : Int) (l : List Pai) (p : Pai) : rankL key (l ++ [p]) = rankL key l + if p.k < key then 1 else 0 := by
  unfold rankL
  rw [List.countP_append]
  by_cases h : p.k < key <;> simp [h]
theorem rankL_le (key : Int) (l : List Pai) : rankL key l ≤ l.length := List.countP_le_length
end Go.Proofs.Ytbgepeokadmemaa.F
namespace Go.Proofs.Ytbgepeokadmemaa.F
open Go.ChangeShapes Go.WideShapes Go.ChangeAt Go.RowKit Base
/-- One pair more is looked at, while another one is put among them. -/
def putStep (key val : Int) (s : List Pai × Bool) (p : Pai) : List Pai × Bool :=
  if (p.k == key) = true then (if (!s.2 && decide (key ≤ p.k)) = true then (s.1 ++ [⟨key, val⟩], true) else s)
  else (if (!s.2 && decide (key ≤ p.k)) = true then (s.1 ++ [⟨key, val⟩] ++ [p], true) else (s.1 ++ [p], s.2))
def putF (key val : Int) (l : List Pai) : List Pai × Bool := l.foldl (putStep key val) ([], false)
/-- The pairs with one put. -/
def putL (key val : Int) (l : List Pai) : List Pai := if (putF key val l).2 = true then (putF key val l).1 else (putF key val l).1 ++ [⟨key, val⟩]
theorem putF_snoc (key val : Int) (l : List Pai) (p : Pai) : putF key val (l ++ [p]) = putStep key val (putF key val l) p := by unfold putF; rw [List.foldl_append]; rfl
theorem putStep_len (key val : Int) (s : List Pai × Bool) (p : Pai) : (putStep key val s p).1.length ≤ s.1.length + 2 := by
  unfold putStep
  split <;> split <;> simp
theorem putF_len (key val : Int) (l : List Pai) : ∀ k, k ≤ l.length → (putF key val (l.take k)).1.length ≤ 2 * k
  | 0, _ => by simp [putF]
  | k + 1, h => by
    rw [pai_take (by omega), putF_snoc]
    have h1 := putStep_len key val (putF key val (l.take k)) (l.getD k Pai.zero)
    have h2 := putF_len key val l k (by omega)
    omega
end Go.Proofs.Ytbgepeokadmemaa.F
namespace Go.Proofs.Ytbgepeokadmemaa.F
open Go.ChangeShapes Go.WideShapes Go.ChangeAt Go.RowKit Base
/-- A value of the struct. -/
structure Dd6 where
  kind : Int
  from_ : Int
  key : Int
  val : Int
def Dd6.zero : Dd6 := ⟨0, 0, 0, 0⟩
/-- Its cells. -/
def Dd6.vals (x : Dd6) : List Value := [.int .i64 x.kind, .int .i64 x.from_, .int .i64 x.key, .int .i64 x.val]
/-- Its fields are ints of 64 bits. -/
def Dd6.ok (x : Dd6) : Prop := (-9223372036854775808 ≤ x.kind ∧ x.kind ≤ 9223372036854775807) ∧ (-9223372036854775808 ≤ x.from_ ∧ x.from_ ≤ 9223372036854775807) ∧ (-9223372036854775808 ≤ x.key ∧ x.key ≤ 9223372036854775807) ∧ (-9223372036854775808 ≤ x.val ∧ x.val ≤ 9223372036854775807)
/-- The slice v, whose elements lie from block base on, holds xs. -/
def Dd6s (base : Nat) (w : World) (v : Value) (xs : List Dd6) : Prop :=
  ((∃ p c, v = .slice p 0 c ∧ (p = none → c = 0)) ∧ xs = []) ∨ ∃ g o c, v = .slice (some ⟨g, o, none⟩) xs.length c ∧ base ≤ g ∧ g < w.heap.size ∧ xs.length ≤ 9223372036854775807 ∧ ∀ k, k < xs.length →
    w.cell? ⟨g, o + k * 4, none⟩ = some (.int .i64 (xs.getD k Dd6.zero).kind) ∧ w.cell? ⟨g, o + k * 4 + 1, none⟩ = some (.int .i64 (xs.getD k Dd6.zero).from_) ∧ w.cell? ⟨g, o + k * 4 + 2, none⟩ = some (.int .i64 (xs.getD k Dd6.zero).key) ∧ w.cell? ⟨g, o + k * 4 + 3, none⟩ = some (.int .i64 (xs.getD k Dd6.zero).val)
theorem Dd6s.kept {base base' : Nat} {w w1 : World} {v : Value} {xs : List Dd6} (h : Dd6s base w v xs) (hb : ∀ g, base ≤ g → g < w.heap.size → w1.heap[g]? = w.heap[g]? ∧ base' ≤ g) (hs : w.heap.size ≤ w1.heap.size) : Dd6s base' w1 v xs := by
  rcases h with h | ⟨g, o, c, hv, h0, h1, h2, h3⟩
  · exact .inl h
  · refine .inr ⟨g, o, c, hv, (hb g h0 h1).2, Nat.lt_of_lt_of_le h1 hs, h2, fun k hk => ?_⟩
    have key : ∀ j, w1.cell? ⟨g, j, none⟩ = w.cell? ⟨g, j, none⟩ := fun j => World.cell?_of_block (a := ⟨g, j, none⟩) (hb g h0 h1).1
    simp only [key]
    exact h3 k hk
theorem Dd6s.below {base : Nat} {w w1 : World} {v : Value} {xs : List Dd6} (h : Dd6s base w v xs) (hb : Below w.heap.size w w1) : Dd6s base w1 v xs :=
  h.kept (fun g h0 h1 => ⟨hb.block g h1, h0⟩) hb.size
theorem Dd6s.grown {base : Nat} {w w1 : World} {v : Value} {xs : List Dd6} {x : Option Nat} (h : Dd6s base w v xs) (hg : w.grownBy w1 x) (hx : ∀ b, x = some b → b < base) : Dd6s base w1 v xs :=
  h.kept (fun g h0 h1 => ⟨hg.block g h1 (fun e => by have := hx g e.symm; omega), h0⟩) hg.size
theorem Dd6s.mono {base base' : Nat} {w : World} {v : Value} {xs : List Dd6} (h : Dd6s base w v xs) (hb : base' ≤ base) : Dd6s base' w v xs :=
  h.kept (fun _ h0 _ => ⟨rfl, Nat.le_trans hb h0⟩) (Nat.le_refl _)
theorem Dd6s.open_ {base : Nat} {w : World} {v : Value} {xs : List Dd6} (h : Dd6s base w v xs) : ∃ p c, v = .slice p xs.length c ∧ xs.length ≤ 9223372036854775807 ∧ ∀ k, k < xs.length → ∃ g o, p = some ⟨g, o, none⟩ ∧ base ≤ g ∧ g < w.heap.size ∧
    w.cell? ⟨g, o + k * 4, none⟩ = some (.int .i64 (xs.getD k Dd6.zero).kind) ∧ w.cell? ⟨g, o + k * 4 + 1, none⟩ = some (.int .i64 (xs.getD k Dd6.zero).from_) ∧ w.cell? ⟨g, o + k * 4 + 2, none⟩ = some (.int .i64 (xs.getD k Dd6.zero).key) ∧ w.cell? ⟨g, o + k * 4 + 3, none⟩ = some (.int .i64 (xs.getD k Dd6.zero).val) := by
  rcases h with ⟨⟨p, c, hv⟩, rfl⟩ | ⟨g, o, c, hv, h0, h1, h2, h3⟩
  · exact ⟨p, c, hv.1, by simp, fun k hk => absurd hk (by simp)⟩
  · exact ⟨_, c, hv, h2, fun k hk => ⟨g, o, rfl, h0, h1, h3 k hk⟩⟩
theorem Dd6s.nil {base : Nat} {w : World} : Dd6s base w (.slice none 0 0) [] := .inl ⟨⟨_, _, rfl, fun _ => rfl⟩, rfl⟩
theorem dd6_flat_len (zs : List Dd6) : (zs.flatMap Dd6.vals).length = zs.length * 4 := by
  induction zs with
  | nil => rfl
  | cons x zs ih => rw [List.flatMap_cons, List.length_append, ih]; simp [Dd6.vals]; omega
theorem dd6_flat_get : ∀ (zs : List Dd6) (k j : Nat), k < zs.length → j < 4 → (zs.flatMap Dd6.vals)[k * 4 + j]? = (Dd6.vals (zs.getD k Dd6.zero))[j]?
  | x :: zs, 0, j, _, hj => by
    rw [List.flatMap_cons, List.getElem?_append_left (by simp [Dd6.vals]; omega)]
    simp
  | x :: zs, k + 1, j, hk, hj => by
    rw [List.flatMap_cons, List.getElem?_append_right (by simp [Dd6.vals]; omega), show (k + 1) * 4 + j - (Dd6.vals x).length = k * 4 + j by simp [Dd6.vals]; omega, dd6_flat_get zs k j (by simpa using hk) hj]
    rfl
theorem dd6_flat_take (zs : List Dd6) (m : Nat) : (zs.flatMap Dd6.vals).take (m * 4) = (zs.take m).flatMap Dd6.vals := by
  induction zs generalizing m with
  | nil => simp
  | cons x zs ih =>
    cases m with
    | zero => simp
    | succ m =>
      rw [List.flatMap_cons, List.take_succ_cons, List.flatMap_cons, ← ih m, List.take_append, List.take_of_length_le (by simp [Dd6.vals]; omega)]
      congr 2
      simp [Dd6.vals]; omega
theorem dd6_vals_one (zs : List Dd6) : ∀ u ∈ zs.flatMap Dd6.vals, u.oneCell' = true := by
  intro u hu
  obtain ⟨x, _, hx⟩ := List.mem_flatMap.1 hu
  simp only [Dd6.vals, List.mem_cons, List.not_mem_nil, or_false] at hx
  rcases hx with rfl | rfl | rfl | rfl <;> rfl
section
variable {H : Type} {enc : TypeId × Value → H} {w : World}
end
end Go.Proofs.Ytbgepeokadmemaa.F
namespace Go.Proofs.Ytbgepeokadmemaa.F
open Go.ChangeShapes Go.WideShapes Go.ChangeAt Go.RowKit Base
/-- A value of the struct. -/
structure Dd7 where
  kind : Int
  from_ : Int
  i : Int
  val : Int
def Dd7.zero : Dd7 := ⟨0, 0, 0, 0⟩
/-- Its cells. -/
def Dd7.vals (x : Dd7) : List Value := [.int .i64 x.kind, .int .i64 x.from_, .int .i64 x.i, .int .i64 x.val]
/-- Its fields are ints of 64 bits. -/
def Dd7.ok (x : Dd7) : Prop := (-9223372036854775808 ≤ x.kind ∧ x.kind ≤ 9223372036854775807) ∧ (-9223372036854775808 ≤ x.from_ ∧ x.from_ ≤ 9223372036854775807) ∧ (-9223372036854775808 ≤ x.i ∧ x.i ≤ 9223372036854775807) ∧ (-9223372036854775808 ≤ x.val ∧ x.val ≤ 9223372036854775807)
/-- The slice v, whose elements lie from block base on, holds xs. -/
def Dd7s (base : Nat) (w : World) (v : Value) (xs : List Dd7) : Prop :=
  ((∃ p c, v = .slice p 0 c ∧ (p = none → c = 0)) ∧ xs = []) ∨ ∃ g o c, v = .slice (some ⟨g, o, none⟩) xs.length c ∧ base ≤ g ∧ g < w.heap.size ∧ xs.length ≤ 9223372036854775807 ∧ ∀ k, k < xs.length →
    w.cell? ⟨g, o + k * 4, none⟩ = some (.int .i64 (xs.getD k Dd7.zero).kind) ∧ w.cell? ⟨g, o + k * 4 + 1, none⟩ = some (.int .i64 (xs.getD k Dd7.zero).from_) ∧ w.cell? ⟨g, o + k * 4 + 2, none⟩ = some (.int .i64 (xs.getD k Dd7.zero).i) ∧ w.cell? ⟨g, o + k * 4 + 3, none⟩ = some (.int .i64 (xs.getD k Dd7.zero).val)
theorem Dd7s.kept {base base' : Nat} {w w1 : World} {v : Value} {xs : List Dd7} (h : Dd7s base w v xs) (hb : ∀ g, base ≤ g → g < w.heap.size → w1.heap[g]? = w.heap[g]? ∧ base' ≤ g) (hs : w.heap.size ≤ w1.heap.size) : Dd7s base' w1 v xs := by
  rcases h with h | ⟨g, o, c, hv, h0, h1, h2, h3⟩
  · exact .inl h
  · refine .inr ⟨g, o, c, hv, (hb g h0 h1).2, Nat.lt_of_lt_of_le h1 hs, h2, fun k hk => ?_⟩
    have key : ∀ j, w1.cell? ⟨g, j, none⟩ = w.cell? ⟨g, j, none⟩ := fun j => World.cell?_of_block (a := ⟨g, j, none⟩) (hb g h0 h1).1
    simp only [key]
    exact h3 k hk
theorem Dd7s.below {base : Nat} {w w1 : World} {v : Value} {xs : List Dd7} (h : Dd7s base w v xs) (hb : Below w.heap.size w w1) : Dd7s base w1 v xs :=
  h.kept (fun g h0 h1 => ⟨hb.block g h1, h0⟩) hb.size
theorem Dd7s.grown {base : Nat} {w w1 : World} {v : Value} {xs : List Dd7} {x : Option Nat} (h : Dd7s base w v xs) (hg : w.grownBy w1 x) (hx : ∀ b, x = some b → b < base) : Dd7s base w1 v xs :=
  h.kept (fun g h0 h1 => ⟨hg.block g h1 (fun e => by have := hx g e.symm; omega), h0⟩) hg.size
theorem Dd7s.mono {base base' : Nat} {w : World} {v : Value} {xs : List Dd7} (h : Dd7s base w v xs) (hb : base' ≤ base) : Dd7s base' w v xs :=
  h.kept (fun _ h0 _ => ⟨rfl, Nat.le_trans hb h0⟩) (Nat.le_refl _)
theorem Dd7s.open_ {base : Nat} {w : World} {v : Value} {xs : List Dd7} (h : Dd7s base w v xs) : ∃ p c, v = .slice p xs.length c ∧ xs.length ≤ 9223372036854775807 ∧ ∀ k, k < xs.length → ∃ g o, p = some ⟨g, o, none⟩ ∧ base ≤ g ∧ g < w.heap.size ∧
    w.cell? ⟨g, o + k * 4, none⟩ = some (.int .i64 (xs.getD k Dd7.zero).kind) ∧ w.cell? ⟨g, o + k * 4 + 1, none⟩ = some (.int .i64 (xs.getD k Dd7.zero).from_) ∧ w.cell? ⟨g, o + k * 4 + 2, none⟩ = some (.int .i64 (xs.getD k Dd7.zero).i) ∧ w.cell? ⟨g, o + k * 4 + 3, none⟩ = some (.int .i64 (xs.getD k Dd7.zero).val) := by
  rcases h with ⟨⟨p, c, hv⟩, rfl⟩ | ⟨g, o, c, hv, h0, h1, h2, h3⟩
  · exact ⟨p, c, hv.1, by simp, fun k hk => absurd hk (by simp)⟩
  · exact ⟨_, c, hv, h2, fun k hk => ⟨g, o, rfl, h0, h1, h3 k hk⟩⟩
theorem Dd7s.nil {base : Nat} {w : World} : Dd7s base w (.slice none 0 0) [] := .inl ⟨⟨_, _, rfl, fun _ => rfl⟩, rfl⟩
theorem dd7_flat_len (zs : List Dd7) : (zs.flatMap Dd7.vals).length = zs.length * 4 := by
  induction zs with
  | nil => rfl
  | cons x zs ih => rw [List.flatMap_cons, List.length_append, ih]; simp [Dd7.vals]; omega
theorem dd7_flat_get : ∀ (zs : List Dd7) (k j : Nat), k < zs.length → j < 4 → (zs.flatMap Dd7.vals)[k * 4 + j]? = (Dd7.vals (zs.getD k Dd7.zero))[j]?
  | x :: zs, 0, j, _, hj => by
    rw [List.flatMap_cons, List.getElem?_append_left (by simp [Dd7.vals]; omega)]
    simp
  | x :: zs, k + 1, j, hk, hj => by
    rw [List.flatMap_cons, List.getElem?_append_right (by simp [Dd7.vals]; omega), show (k + 1) * 4 + j - (Dd7.vals x).length = k * 4 + j by simp [Dd7.vals]; omega, dd7_flat_get zs k j (by simpa using hk) hj]
    rfl
theorem dd7_flat_take (zs : List Dd7) (m : Nat) : (zs.flatMap Dd7.vals).take (m * 4) = (zs.take m).flatMap Dd7.vals := by
  induction zs generalizing m with
  | nil => simp
  | cons x zs ih =>
    cases m with
    | zero => simp
    | succ m =>
      rw [List.flatMap_cons, List.take_succ_cons, List.flatMap_cons, ← ih m, List.take_append, List.take_of_length_le (by simp [Dd7.vals]; omega)]
      congr 2
      simp [Dd7.vals]; omega
theorem dd7_vals_one (zs : List Dd7) : ∀ u ∈ zs.flatMap Dd7.vals, u.oneCell' = true := by
  intro u hu
  obtain ⟨x, _, hx⟩ := List.mem_flatMap.1 hu
  simp only [Dd7.vals, List.mem_cons, List.not_mem_nil, or_false] at hx
  rcases hx with rfl | rfl | rfl | rfl <;> rfl
/-- The slice v, which the call made itself from block B on, holds zs. -/
def OwnDd7 (B : Nat) (w : World) (v : Value) (zs : List Dd7) : Prop := w.ownsRow B 34 4 v zs.length (zs.flatMap Dd7.vals)
theorem OwnDd7.nil (B : Nat) (w : World) : OwnDd7 B w (.slice none 0 0) [] := World.ownsRow_nil _ _ _ _
theorem OwnDd7.list {B : Nat} {w : World} {v : Value} {zs : List Dd7} (h : OwnDd7 B w v zs) (hl : zs.length ≤ 9223372036854775807) : Dd7s B w v zs := by
  have h' := h
  rcases h.2 with ⟨hv, h0⟩ | ⟨g, cap, cur, hv, hB, h2, _⟩
  · exact .inl ⟨⟨_, _, hv, fun _ => rfl⟩, List.length_eq_zero_iff.1 h0⟩
  · subst hv
    have hc : ∀ k j, k < zs.length → j < 4 → w.cell? ⟨g, 0 + k * 4 + j, none⟩ = (Dd7.vals (zs.getD k Dd7.zero))[j]? := fun k j hk hj => by
      rw [Nat.zero_add, ← dd7_flat_get zs k j hk hj]
      exact World.ownsRow.cellAt h' (k * 4 + j) (by omega)
    exact .inr ⟨g, 0, cap, rfl, hB, heap_lt h2, hl, fun k hk => ⟨hc k 0 hk (by omega), hc k 1 hk (by omega), hc k 2 hk (by omega), hc k 3 hk (by omega)⟩⟩
theorem OwnDd7.kept {B : Nat} {w w1 : World} {v : Value} {zs : List Dd7} (h : OwnDd7 B w v zs) {row : Option Nat} (hg : w.grownBy w1 row) (hne : v.ownBlock = none ∨ v.ownBlock ≠ row) : OwnDd7 B w1 v zs := World.ownsRow.kept h hg hne
theorem OwnDd7.below {B : Nat} {w w1 : World} {v : Value} {zs : List Dd7} (h : OwnDd7 B w v zs) (hb : Below w.heap.size w w1) : OwnDd7 B w1 v zs :=
  World.ownsRow.kept h (row := none) ⟨hb.os, hb.tape, hb.output, hb.size, fun k hk _ => hb.block k hk⟩ (by cases v.ownBlock <;> simp)
theorem OwnDd7.base {B : Nat} {w : World} {v : Value} {zs : List Dd7} (h : OwnDd7 B w v zs) : ∀ k, v.ownBlock = some k → B ≤ k ∧ k < w.heap.size := World.ownsRow.lt h
/-- The first m of it, in the same place. -/
theorem OwnDd7.cut {B : Nat} {w : World} {p : Option Addr} {n c : Nat} {zs : List Dd7} (h : OwnDd7 B w (.slice p n c) zs) {m : Nat} (hm : m ≤ zs.length) : OwnDd7 B w (.slice p m c) (zs.take m) := by
  obtain ⟨hl, h⟩ := h
  have hlen : (zs.take m).length = m := by rw [List.length_take]; omega
  refine ⟨by rw [dd7_flat_len], ?_⟩
  rw [hlen]
  rcases h with ⟨hv, h0⟩ | ⟨g, cap, cur, hv, h1, h2, h3, h4, h5, h6⟩
  · injection hv with e1 e2 e3
    subst e1 e3
    obtain rfl : m = 0 := by omega
    exact .inl ⟨rfl, rfl⟩
  · injection hv with e1 e2 e3
    subst e1 e3
    refine .inr ⟨g, c, cur, rfl, h1, h2, by omega, h4, h5, ?_⟩
    rw [← dd7_flat_take, ← h6, List.take_take]
    congr 1
    have := Nat.mul_le_mul_right 4 hm
    omega
theorem dd7_info : (Try.prog.info? 34).map (fun i => (i.zero, i.size, i.bytes)) = some (some (.agg #[.int .i64 0, .int .i64 0, .int .i64 0, .int .i64 0]), 4, 32) := by kernel_rfl
theorem run_append_dd7s {B base : Nat} {w : World} {v u : Value} {zs ys : List Dd7} (ty : TypeId)
    (hB : B ≤ w.heap.size) (hown : OwnDd7 B w v zs) (hys : Dd7s base w u ys) (hl : zs.length + ys.length ≤ 1000000) :
    ∃ v' w', (Builtin.append_ #[22, 22] ty #[v, u]).run Try.prog w = .ok v' w' ∧ OwnDd7 B w' v' (zs ++ ys) ∧ w.grownBy w' v.ownBlock ∧ (v'.ownBlock = v.ownBlock ∨ v'.ownBlock = some w.heap.size) := by
  obtain ⟨i0, hi, hz0, hz1, hz2⟩ := info_parts dd7_info
  rcases hys with ⟨⟨p, c, rfl, hpc⟩, rfl⟩ | ⟨g, o', c, rfl, _, _, _, hc⟩
  · cases p with
    | none =>
      obtain rfl := hpc rfl
      exact ⟨v, w, run_append_owned_none (P := Try.prog) (w := w) B 22 ty 34 i0 4 Try.underlying22 hi v zs.length (zs.flatMap Dd7.vals) hown, by rw [List.append_nil]; exact hown, World.grownBy.refl _ _, .inl rfl⟩
    | some ad =>
      obtain ⟨v', w', hr, h2, h3, _, h5⟩ := run_append_own_at (P := Try.prog) w B 22 ty 34 i0 (.agg #[.int .i64 0, .int .i64 0, .int .i64 0, .int .i64 0]) 4 32 Try.underlying22 hi hz0 hz1 hz2 rfl (by decide) v zs.length (zs.flatMap Dd7.vals) hown ad 0 c [] (by simp) (by simp) (by simp) (by simp only [maxLen]; omega) (by omega) hB
      refine ⟨v', w', hr, ?_, h3, h5⟩
      rw [List.append_nil]
      unfold OwnDd7
      simpa using h2
  · obtain ⟨v', w', hr, h2, h3, _, h5⟩ := run_append_own_at (P := Try.prog) w B 22 ty 34 i0 (.agg #[.int .i64 0, .int .i64 0, .int .i64 0, .int .i64 0]) 4 32 Try.underlying22 hi hz0 hz1 hz2 rfl (by decide) v zs.length (zs.flatMap Dd7.vals) hown ⟨g, o', none⟩ ys.length c (ys.flatMap Dd7.vals) (dd7_flat_len ys) (by
      intro t y hy
      have ht : t < ys.length * 4 := by rw [← dd7_flat_len ys]; exact (List.getElem?_eq_some_iff.1 hy).1
      have hk : t / 4 < ys.length := by omega
      have hr : t % 4 < 4 := Nat.mod_lt _ (by decide)
      have e : t = t / 4 * 4 + t % 4 := by omega
      have hcc := hc (t / 4) hk
      rw [e, dd7_flat_get ys _ _ hk hr] at hy
      rw [add_plain, e]
      generalize t / 4 = k at hcc hy
      generalize t % 4 = j at hr hy
      obtain ⟨c0, c1, c2, c3⟩ := hcc
      match j, hr, hy with
      | 0, _, hy => simp [Dd7.vals] at hy; subst hy; simpa [Nat.add_assoc] using c0
      | 1, _, hy => simp [Dd7.vals] at hy; subst hy; simpa [Nat.add_assoc] using c1
      | 2, _, hy => simp [Dd7.vals] at hy; subst hy; simpa [Nat.add_assoc] using c2
      | 3, _, hy => simp [Dd7.vals] at hy; subst hy; simpa [Nat.add_assoc] using c3) (dd7_vals_one ys) (by simp only [maxLen]; omega) (by omega) hB
    refine ⟨v', w', hr, ?_, h3, h5⟩
    unfold OwnDd7
    rw [List.length_append, List.flatMap_append]
    exact h2
/-- Some are put behind a slice of the call's own. -/
theorem append_dd7s {ops : Array Oper} {rest : List Oper} {o : Oper} {a : Act} {Q : Exit → Act → World → Prop} (hgd : o.guard = none) (s x : Operand)
    (ho : o.op = .call { callee := .builtin .append, args := #[s, x], argTypes := #[22, 22] }) {B base : Nat} {w : World} {v u : Value} {zs ys : List Dd7}
    (hB : B ≤ w.heap.size) (hown : OwnDd7 B w v zs) (hs : a.eval s = v) (hys : Dd7s base w u ys) (hx : a.eval x = u) (hl : zs.length + ys.length ≤ 1000000)
    (h : ∀ v' w', OwnDd7 B w' v' (zs ++ ys) → w.grownBy w' v.ownBlock → (v'.ownBlock = v.ownBlock ∨ v'.ownBlock = some w.heap.size) → wpList Try.prog ops Q rest (a.put o.dst v') w') :
    wpList Try.prog ops Q (o :: rest) a w := by
  refine wpList_plain hgd fun K hK => ?_
  obtain ⟨v', w', hr, h2, h3, h5⟩ := run_append_dd7s o.type hB hown hys hl
  unfold Oper.wp execOp
  simp only [ho, resolve, invoke, builtin, Sem.run_bind, Sem.run_pure, Result.andThen_ok, List.map_toArray, List.map_cons, List.map_nil, hs, hx, hr]
  exact hK _ _ (h v' w' h2 h3 h5)
/-- The same, as one step of a region that draws its order. -/
theorem step_append_dd7s {ops : Array Oper} {o : Oper} {a : Act} {w : World} {K : Act → World → Prop} {Q : Exit → Act → World → Prop} {E : Prop} (hgd : o.guard = none) (s x : Operand)
    (ho : o.op = .call { callee := .builtin .append, args := #[s, x], argTypes := #[22, 22] }) {B base : Nat} {v u : Value} {zs ys : List Dd7}
    (hB : B ≤ w.heap.size) (hown : OwnDd7 B w v zs) (hs : a.eval s = v) (hys : Dd7s base w u ys) (hx : a.eval x = u) (hl : zs.length + ys.length ≤ 1000000)
    (hK : ∀ v' w', OwnDd7 B w' v' (zs ++ ys) → w.grownBy w' v.ownBlock → (v'.ownBlock = v.ownBlock ∨ v'.ownBlock = some w.heap.size) → K (a.put o.dst v') w') :
    if Region.wanted o (yielded ops a.tmps) = true then Oper.wp Try.prog o a w K Q else E := by
  rw [if_pos (by simp [Region.wanted, hgd])]
  obtain ⟨v', w', hr, h2, h3, h5⟩ := run_append_dd7s o.type hB hown hys hl
  unfold Oper.wp
  simp [execOp, ho, resolve, invoke, builtin, hs, hx, hr, Result.andThen]
  exact hK v' w' h2 h3 h5
theorem OwnDd7.lay {B : Nat} {w X : World} {v : Value} {zs : List Dd7} (h : OwnDd7 B w v zs) (hx : X.heap = w.heap) (o : Obj) : OwnDd7 B (X.alloc o) v zs := by
  have h1 : OwnDd7 B X v zs := by
    unfold OwnDd7 World.ownsRow at *
    rw [hx]
    exact h
  exact World.ownsRow.alloc h1 o
theorem ownDd7_empty {B : Nat} {W : World} {g : Nat} (hB : B ≤ g) (h : W.heap[g]? = some (.cells #[] 34)) : OwnDd7 B W (.slice (some ⟨g, 0, none⟩) 0 0) [] :=
  ⟨rfl, .inr ⟨g, 0, #[], rfl, hB, h, Nat.le_refl _, by simp [maxLen], rfl, rfl⟩⟩
/-- One that is typed out. -/
theorem dd7_at {X : World} {g : Nat} (c : Dd7) (h : X.heap[g]? = some (.cells #[.int .i64 c.kind, .int .i64 c.from_, .int .i64 c.i, .int .i64 c.val] 34)) : Dd7s 0 X (.slice (some ⟨g, 0, none⟩) 1 1) [c] := by
  refine .inr ⟨g, 0, 1, rfl, Nat.zero_le _, heap_lt h, by simp, fun k hk => ?_⟩
  have : k = 0 := by simpa using hk
  subst this
  simp only [World.cell?, h]
  simp
theorem dd7_lit (c : Dd7) (X : World) : Dd7s 0 (X.alloc (.cells #[.int .i64 c.kind, .int .i64 c.from_, .int .i64 c.i, .int .i64 c.val] 34)) (.slice (some ⟨X.heap.size, 0, none⟩) 1 1) [c] := dd7_at c (heap_alloc_at _ _ _ rfl)

theorem dd7_flat : flatB Try.prog 8 34 = true := by kernel_rfl
theorem dd7_cells : Try.prog.cellsOf 34 = 4 := by kernel_rfl
section
variable {H : Type} {enc : TypeId × Value → H} {w : World}
set_option maxRecDepth 100000 in
theorem open_dd7s {r : Reach} {b0 : Nat} {v : Value} {d : DataW H} {p : List MemPlace} (hv : Value.okWide Try.prog w r b0 22 v) (h : DataW.Trod enc Try.prog w 0 (fun _ => true) true 22 v d p) : ∃ xs, (∃ p c, v = .slice p xs.length c ∧ xs.length ≤ c) ∧ Dd7s 0 w v xs ∧ ∀ x ∈ xs, Dd7.ok x := by
  obtain ⟨q, len, cap, G, rfl, hqc, hlc, hl, hG, hc⟩ := open_flat Try.underlying22 dd7_flat (by rw [dd7_cells]; decide) hv h
  rw [dd7_cells] at hc
  have hlen : ((List.range len).map fun k => (⟨G k 0, G k 1, G k 2, G k 3⟩ : Dd7)).length = len := by simp
  refine ⟨(List.range len).map fun k => ⟨G k 0, G k 1, G k 2, G k 3⟩, ⟨q, cap, by rw [hlen], by rw [hlen]; exact hlc⟩, ?_, fun x hx => ?_⟩
  · by_cases h0 : len = 0
    · subst h0
      exact .inl ⟨⟨_, _, rfl, hqc⟩, rfl⟩
    · obtain ⟨g, o, hq, hg, _⟩ := hc 0 (by omega)
      subst hq
      refine .inr ⟨g, o, cap, by rw [hlen], Nat.zero_le _, hg, by rw [hlen]; exact hl, fun k hk => ?_⟩
      rw [hlen] at hk
      obtain ⟨g', o', hq, _, hcc⟩ := hc k hk
      simp only [Option.some.injEq, Addr.mk.injEq, and_true] at hq
      obtain ⟨rfl, rfl⟩ := hq
      have hget : ((List.range len).map fun k => (⟨G k 0, G k 1, G k 2, G k 3⟩ : Dd7)).getD k Dd7.zero = ⟨G k 0, G k 1, G k 2, G k 3⟩ := by simp [List.getD_eq_getElem?_getD, hk]
      rw [hget]
      exact ⟨hcc 0 (by omega), hcc 1 (by omega), hcc 2 (by omega), hcc 3 (by omega)⟩
  · obtain ⟨k, _, rfl⟩ := List.mem_map.1 hx
    exact ⟨hG k 0, hG k 1, hG k 2, hG k 3⟩
set_option maxRecDepth 100000 in
theorem open_dd7 {r : Reach} {b0 : Nat} {v : Value} {d : DataW H} {p : List MemPlace} {base : Nat} {spare : Nat → Bool} {held : Bool} (hv : Value.okWide Try.prog w r b0 34 v) (h : DataW.Trod enc Try.prog w base spare held 34 v d p) : ∃ x : Dd7, Dd7.ok x ∧ v = .agg #[.int .i64 x.kind, .int .i64 x.from_, .int .i64 x.i, .int .i64 x.val] := by
  obtain ⟨G, hG, hv'⟩ := open_flat1 Try.underlying34 dd7_flat hv h
  rw [dd7_cells] at hv'
  exact ⟨⟨G 0, G 1, G 2, G 3⟩, ⟨hG 0, hG 1, hG 2, hG 3⟩, hv'⟩
end
end Go.Proofs.Ytbgepeokadmemaa.F
