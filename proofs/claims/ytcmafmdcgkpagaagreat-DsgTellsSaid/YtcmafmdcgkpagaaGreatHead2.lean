/-
  Contracts of small functions, several texts laid into one. Not a statement of the seat.
-/
import Derived.Test.YtcmafmdcgkpagaaGreatHead1
import Derived.Deep.Slices
import Derived.Deep.Fields
import Derived.ChangeSame
import Derived.OpenShut
import Derived.ProofKit
import Derived.Deep.DeepHandedRow
import Derived.Laws.AppendOwnNone
import Derived.Maps.AppendAt
import Derived.Deep.RegionLaw
import Derived.BigQuiet
import Derived.Deep.QuietTactic
namespace Go.Proofs.YtcmafmdcgkpagaaGreat.F
open Go.ChangeShapes Go.WideShapes Go.ChangeAt Go.RowKit Base
section
open Go.Deep
variable {H : Type} {enc : TypeId × Value → H} {P : Program} {w : World}
/-- Is each cell of a type an int of 64 bits? (Structs in structs, too.) -/
def flatB (P : Program) : Nat → TypeId → Bool
  | 0, _ => false
  | n + 1, t => match P.underlying t with
    | some (.int k) => decide (k = .i64) && decide (P.cellsOf t = 1)
    | some (.struct fs) => fs.all (fun f => flatB P n f.type) && (List.range (P.cellsOf t)).all fun i => fs.any fun f => decide (f.offset ≤ i ∧ i < f.offset + P.cellsOf f.type)
    | _ => false
/-- An int of 64 bits. -/
def is64 (z : Int) : Prop := -9223372036854775808 ≤ z ∧ z ≤ 9223372036854775807
theorem flat_cells : ∀ (n : Nat) (t : TypeId), flatB P n t = true → ∀ (base : Nat) (spare : Nat → Bool) (held : Bool) (fuel : Nat) (cs : List Value) (x : DataW H × List MemPlace), DataW.trod enc P w base spare held fuel t cs = some x → ∀ i, i < P.cellsOf t → ∃ z, cs[i]? = some (.int .i64 z) ∧ is64 z
  | 0, _, h => by simp [flatB] at h
  | n + 1, t, h => by
    intro base spare held fuel cs x hx i hi
    unfold flatB at h
    split at h
    · next k hk =>
      rw [Bool.and_eq_true] at h
      have e1 := of_decide_eq_true h.1
      have e2 := of_decide_eq_true h.2
      subst e1
      obtain ⟨z, rfl, _, hw⟩ := DataW.trod_int hk hx
      have : i = 0 := by omega
      subst this
      exact ⟨z, rfl, bounds_i64 hw⟩
    · next fs hs =>
      rw [Bool.and_eq_true] at h
      obtain ⟨h1, h2⟩ := h
      obtain ⟨xs, n', _, _, hcl, hxl, hg⟩ := DataW.trod_struct hs hx
      have h3 := List.all_eq_true.1 h2 i (List.mem_range.2 hi)
      rw [Array.any_eq_true] at h3
      obtain ⟨j, hj, h3⟩ := h3
      have h4 := of_decide_eq_true h3
      have h5 := hg j fs[j] (Array.getElem?_eq_getElem hj)
      rw [List.getElem?_eq_getElem (by omega)] at h5
      have h6 : flatB P n fs[j].type = true := by
        rw [Array.all_eq_true] at h1
        exact h1 j hj
      obtain ⟨z, hz, hb⟩ := flat_cells n _ h6 _ _ _ _ _ _ h5 (i - fs[j].offset) (by omega)
      refine ⟨z, ?_, hb⟩
      rw [List.getElem?_take, if_pos (by omega), List.getElem?_drop] at hz
      rw [← hz]
      congr 1
      omega
    · cases h
/-- A slice of such structs. -/
theorem open_flat {r : Reach} {b0 n : Nat} {t e : TypeId} {v : Value} {d : DataW H} {p : List MemPlace} (ht : P.underlying t = some (.slice e)) (hf : flatB P n e = true) (hpos : 0 < P.cellsOf e) (hv : Value.okWide P w r b0 t v) (h : DataW.Trod enc P w 0 (fun _ => true) true t v d p) :
    ∃ (q : Option Addr) (len cap : Nat) (G : Nat → Nat → Int), v = .slice q len cap ∧ (q = none → cap = 0) ∧ len ≤ cap ∧ len ≤ 9223372036854775807 ∧ (∀ k j, is64 (G k j)) ∧ ∀ k, k < len → ∃ g o, q = some ⟨g, o, none⟩ ∧ g < w.heap.size ∧ ∀ j, j < P.cellsOf e → w.cell? ⟨g, o + k * P.cellsOf e + j, none⟩ = some (.int .i64 (G k j)) := by
  obtain ⟨a0, len, cap, rfl⟩ := okWide_slice ht hv
  obtain ⟨fuel, hfu⟩ := h
  rcases open_slice ht hfu with ⟨hcs, _⟩ | ⟨a, len', cap', m, n', D, Pl, hcs, _, hl, hm, hmm, _, hel⟩
  · simp [Value.cells] at hcs
    obtain ⟨rfl, rfl, rfl⟩ := hcs
    exact ⟨none, 0, 0, fun _ _ => 0, rfl, fun _ => rfl, by omega, by omega, fun _ _ => (show is64 0 from ⟨by decide, by decide⟩), fun k hk => absurd hk (by omega)⟩
  · simp [Value.cells] at hcs
    obtain ⟨rfl, rfl, rfl⟩ := hcs
    simp only [if_true] at hmm
    have key : ∀ k, ∀ j, ∃ z : Int, is64 z ∧ (k < len → j < P.cellsOf e → w.cell? ((a.add (k * P.cellsOf e)).add j) = some (.int .i64 z)) := fun k j => by
      by_cases hk : k < len ∧ j < P.cellsOf e
      · obtain ⟨cs', hc, ht'⟩ := hel k (by omega)
        obtain ⟨_, hcl, hat⟩ := World.cells?_some hc
        obtain ⟨z, hz, hb⟩ := flat_cells n e hf _ _ _ _ _ _ ht' j hk.2
        exact ⟨z, hb, fun _ _ => (hat j hk.2).trans hz⟩
      · exact ⟨0, ⟨by decide, by decide⟩, fun h1 h2 => absurd ⟨h1, h2⟩ hk⟩
    have hG : ∃ G : Nat → Nat → Int, ∀ k j, is64 (G k j) ∧ (k < len → j < P.cellsOf e → w.cell? ((a.add (k * P.cellsOf e)).add j) = some (.int .i64 (G k j))) := by
      obtain ⟨G, hG⟩ := Classical.axiomOfChoice fun k => Classical.axiomOfChoice (key k)
      exact ⟨G, hG⟩
    obtain ⟨G, hG⟩ := hG
    refine ⟨some a, len, cap, G, rfl, (fun e => by cases e), hl, by simp only [maxLen] at hm; omega, fun k j => (hG k j).1, fun k hk => ?_⟩
    obtain ⟨b, off, spot⟩ := a
    have h0 := (hG k 0).2 hk hpos
    have hspot : spot = none := by
      have h9 := World.cell?_spot ((hG 0 0).2 (by omega) hpos)
      simpa [Addr.add] using h9
    subst hspot
    refine ⟨b, off, rfl, ?_, fun j hj => ?_⟩
    · rw [add_plain, add_plain] at h0
      exact World.block_lt_of_cell? w _ h0
    · have := (hG k j).2 hk hj
      rwa [add_plain, add_plain] at this
/-- Such a struct by value. -/
theorem open_flat1 {r : Reach} {b0 n : Nat} {t : TypeId} {v : Value} {d : DataW H} {p : List MemPlace} {base : Nat} {spare : Nat → Bool} {held : Bool} {fs : Array Field} (hs : P.underlying t = some (.struct fs)) (hf : flatB P n t = true) (hv : Value.okWide P w r b0 t v) (h : DataW.Trod enc P w base spare held t v d p) :
    ∃ G : Nat → Int, (∀ j, is64 (G j)) ∧ v = .agg (((List.range (P.cellsOf t)).map fun j => Value.int .i64 (G j)).toArray) := by
  obtain ⟨cs, rfl, hsz⟩ := okWide_struct hs hv
  obtain ⟨fuel, hfu⟩ := h
  have key : ∀ j, ∃ z : Int, is64 z ∧ (j < P.cellsOf t → cs[j]? = some (.int .i64 z)) := fun j => by
    by_cases hj : j < P.cellsOf t
    · obtain ⟨z, hz, hb⟩ := flat_cells n t hf _ _ _ _ _ _ hfu j hj
      exact ⟨z, hb, fun _ => by simpa [Value.cells] using hz⟩
    · exact ⟨0, ⟨by decide, by decide⟩, fun h => absurd h hj⟩
  obtain ⟨G, hG⟩ := Classical.axiomOfChoice key
  refine ⟨G, fun j => (hG j).1, ?_⟩
  congr 1
  apply Array.ext_getElem?
  intro j
  by_cases hj : j < P.cellsOf t
  · rw [(hG j).2 hj]
    simp [hj]
  · rw [Array.getElem?_eq_none (by rw [hsz]; omega), Array.getElem?_eq_none (by simp; omega)]
end
end Go.Proofs.YtcmafmdcgkpagaaGreat.F
namespace Go.Proofs.YtcmafmdcgkpagaaGreat.F
open Go.ChangeShapes Go.WideShapes Go.ChangeAt Go.RowKit Base
section
open Go.Deep
variable {H : Type} {enc : TypeId × Value → H} {P : Program} {w : World}
/-- A slice of structs that came in, each field of one cell: where its fields lie, and that each reads. -/
theorem open_structs {r : Reach} {b0 : Nat} {t e : TypeId} {fs : Array Field} {v : Value} {d : DataW H} {p : List MemPlace} (ht : P.underlying t = some (.slice e)) (he : P.underlying e = some (.struct fs)) (hone : oneCellFields P fs = true)
    (hC : P.cellsOf e = fs.size) (hpos : 0 < fs.size) (hv : Value.okWide P w r b0 t v) (h : DataW.Trod enc P w 0 (fun _ => true) true t v d p) :
    ∃ (a0 : Option Addr) (len cap : Nat), v = .slice a0 len cap ∧ len ≤ 9223372036854775807 ∧ ∀ i, i < len → ∃ g o, a0 = some ⟨g, o, none⟩ ∧ g < w.heap.size ∧
      ∀ (j : Nat) (f : Field), fs[j]? = some f → ∃ (u : Value) (y : DataW H × List MemPlace) (n : Nat), w.cell? ⟨g, o + i * fs.size + j, none⟩ = some u ∧ DataW.trod enc P w 0 (fun _ => true) true n f.type [u] = some y := by
  obtain ⟨a0, len, cap, rfl⟩ := okWide_slice ht hv
  obtain ⟨fuel, hf⟩ := h
  refine ⟨a0, len, cap, rfl, ?_⟩
  rcases open_slice ht hf with ⟨hcs, _⟩ | ⟨a, len', cap', m, n, D, Pl, hcs, _, hl, hm, hmm, _, hel⟩
  · simp [Value.cells] at hcs
    obtain ⟨rfl, rfl, rfl⟩ := hcs
    exact ⟨by omega, fun i hi => absurd hi (by omega)⟩
  · simp [Value.cells] at hcs
    obtain ⟨rfl, rfl, rfl⟩ := hcs
    simp only [if_true] at hmm
    refine ⟨by simp only [maxLen] at hm; omega, fun i hi => ?_⟩
    obtain ⟨cs', hc, ht'⟩ := hel i (by omega)
    obtain ⟨_, hcl, hat⟩ := World.cells?_some hc
    obtain ⟨xs, n', _, _, _, hxl, hg⟩ := DataW.trod_struct he ht'
    rw [hC] at hcl hat
    have hcell : ∀ j, j < fs.size → ∃ u, cs'[j]? = some u ∧ w.cell? ((a.add (i * fs.size)).add j) = some u := fun j hj => by
      have h1 : cs'[j]? = some (cs'[j]'(by omega)) := List.getElem?_eq_getElem (by omega)
      exact ⟨_, h1, (hat j hj).trans h1⟩
    obtain ⟨b, off, spot⟩ := a
    have hspot : spot = none := by
      obtain ⟨cs0, hc0, _⟩ := hel 0 (by omega)
      obtain ⟨_, hcl0, hat0⟩ := World.cells?_some hc0
      rw [hC] at hcl0 hat0
      have hu := (hat0 0 hpos).trans (List.getElem?_eq_getElem (by omega))
      simpa [Addr.add] using World.cell?_spot hu
    subst hspot
    have hadd : ∀ j, (Addr.add (Addr.add ⟨b, off, none⟩ (i * fs.size)) j) = ⟨b, off + i * fs.size + j, none⟩ := fun j => by rw [add_plain, add_plain]
    refine ⟨b, off, rfl, ?_, fun j f hj => ?_⟩
    · obtain ⟨u, _, hu⟩ := hcell 0 hpos
      rw [hadd] at hu
      exact World.block_lt_of_cell? w _ hu
    · have hjl : j < fs.size := (Array.getElem?_eq_some_iff.1 hj).1
      obtain ⟨u, hu, hcu⟩ := hcell j hjl
      obtain ⟨ho, hk⟩ := hone_of hone j f hj
      have h1 := hg j f hj
      have h2 : (cs'.drop j).take 1 = [u] := by
        obtain ⟨hlt, hh⟩ := List.getElem?_eq_some_iff.1 hu
        rw [List.drop_eq_getElem_cons hlt, hh]; rfl
      rw [ho, hk, h2, List.getElem?_eq_getElem (by omega)] at h1
      rw [hadd] at hcu
      exact ⟨u, _, n', hcu, h1⟩
end
end Go.Proofs.YtcmafmdcgkpagaaGreat.F
namespace Go.Proofs.YtcmafmdcgkpagaaGreat.F
open Go.ChangeShapes Go.WideShapes Go.ChangeAt Go.RowKit Base
section
open Go.Deep
variable {H : Type} {enc : TypeId × Value → H} {P : Program} {w : World}
/-- A slice of structs that came in, each field of one cell: where its fields lie, and that each reads; out of its one cell. -/
theorem open_structs2 {t e : TypeId} {fs : Array Field} {u : Value} {n : Nat} {y : DataW H × List MemPlace} (ht : P.underlying t = some (.slice e)) (he : P.underlying e = some (.struct fs)) (hone : oneCellFields P fs = true)
    (hC : P.cellsOf e = fs.size) (hpos : 0 < fs.size) (h : DataW.trod enc P w 0 (fun _ => true) true n t [u] = some y) :
    ∃ (a0 : Option Addr) (len cap : Nat), u = .slice a0 len cap ∧ (a0 = none → cap = 0) ∧ len ≤ cap ∧ len ≤ 9223372036854775807 ∧ ∀ i, i < len → ∃ g o, a0 = some ⟨g, o, none⟩ ∧ g < w.heap.size ∧
      ∀ (j : Nat) (f : Field), fs[j]? = some f → ∃ (u : Value) (y : DataW H × List MemPlace) (n : Nat), w.cell? ⟨g, o + i * fs.size + j, none⟩ = some u ∧ DataW.trod enc P w 0 (fun _ => true) true n f.type [u] = some y := by
  rcases open_slice ht h with ⟨hcs, _⟩ | ⟨a, len, cap, m, n, D, Pl, hcs, _, hl, hm, hmm, _, hel⟩
  · obtain rfl := (List.cons.inj hcs).1
    exact ⟨none, 0, 0, rfl, fun _ => rfl, by omega, by omega, fun i hi => absurd hi (by omega)⟩
  · obtain rfl := (List.cons.inj hcs).1
    simp only [if_true] at hmm
    refine ⟨some a, len, cap, rfl, (fun e => by cases e), hl, by simp only [maxLen] at hm; omega, fun i hi => ?_⟩
    obtain ⟨cs', hc, ht'⟩ := hel i (by omega)
    obtain ⟨_, hcl, hat⟩ := World.cells?_some hc
    obtain ⟨xs, n', _, _, _, hxl, hg⟩ := DataW.trod_struct he ht'
    rw [hC] at hcl hat
    have hcell : ∀ j, j < fs.size → ∃ u, cs'[j]? = some u ∧ w.cell? ((a.add (i * fs.size)).add j) = some u := fun j hj => by
      have h1 : cs'[j]? = some (cs'[j]'(by omega)) := List.getElem?_eq_getElem (by omega)
      exact ⟨_, h1, (hat j hj).trans h1⟩
    obtain ⟨b, off, spot⟩ := a
    have hspot : spot = none := by
      obtain ⟨cs0, hc0, _⟩ := hel 0 (by omega)
      obtain ⟨_, hcl0, hat0⟩ := World.cells?_some hc0
      rw [hC] at hcl0 hat0
      have hu := (hat0 0 hpos).trans (List.getElem?_eq_getElem (by omega))
      simpa [Addr.add] using World.cell?_spot hu
    subst hspot
    have hadd : ∀ j, (Addr.add (Addr.add ⟨b, off, none⟩ (i * fs.size)) j) = ⟨b, off + i * fs.size + j, none⟩ := fun j => by rw [add_plain, add_plain]
    refine ⟨b, off, rfl, ?_, fun j f hj => ?_⟩
    · obtain ⟨u, _, hu⟩ := hcell 0 hpos
      rw [hadd] at hu
      exact World.block_lt_of_cell? w _ hu
    · have hjl : j < fs.size := (Array.getElem?_eq_some_iff.1 hj).1
      obtain ⟨u, hu, hcu⟩ := hcell j hjl
      obtain ⟨ho, hk⟩ := hone_of hone j f hj
      have h1 := hg j f hj
      have h2 : (cs'.drop j).take 1 = [u] := by
        obtain ⟨hlt, hh⟩ := List.getElem?_eq_some_iff.1 hu
        rw [List.drop_eq_getElem_cons hlt, hh]; rfl
      rw [ho, hk, h2, List.getElem?_eq_getElem (by omega)] at h1
      rw [hadd] at hcu
      exact ⟨u, _, n', hcu, h1⟩
end
end Go.Proofs.YtcmafmdcgkpagaaGreat.F
namespace Go.Proofs.YtcmafmdcgkpagaaGreat.F
open Go.ChangeShapes Go.WideShapes Go.ChangeAt Go.RowKit Base
/-- A value of the struct. -/
structure Opr where
  rd : Bool
  k : Int
  t : Int
  n : Int
def Opr.zero : Opr := ⟨false, 0, 0, 0⟩
/-- Its cells. -/
def Opr.vals (x : Opr) : List Value := [.bool x.rd, .int .i64 x.k, .int .i64 x.t, .int .i64 x.n]
/-- Its numbers are ints of 64 bits. -/
def Opr.ok (x : Opr) : Prop := (-9223372036854775808 ≤ x.k ∧ x.k ≤ 9223372036854775807) ∧ (-9223372036854775808 ≤ x.t ∧ x.t ≤ 9223372036854775807) ∧ (-9223372036854775808 ≤ x.n ∧ x.n ≤ 9223372036854775807)
/-- The slice v, whose elements lie from block base on, holds xs. -/
def Oprs (base : Nat) (w : World) (v : Value) (xs : List Opr) : Prop :=
  ((∃ p c, v = .slice p 0 c ∧ (p = none → c = 0)) ∧ xs = []) ∨ ∃ g o c, v = .slice (some ⟨g, o, none⟩) xs.length c ∧ base ≤ g ∧ g < w.heap.size ∧ xs.length ≤ 9223372036854775807 ∧ ∀ k, k < xs.length →
    w.cell? ⟨g, o + k * 4, none⟩ = some (.bool (xs.getD k Opr.zero).rd) ∧ w.cell? ⟨g, o + k * 4 + 1, none⟩ = some (.int .i64 (xs.getD k Opr.zero).k) ∧ w.cell? ⟨g, o + k * 4 + 2, none⟩ = some (.int .i64 (xs.getD k Opr.zero).t) ∧ w.cell? ⟨g, o + k * 4 + 3, none⟩ = some (.int .i64 (xs.getD k Opr.zero).n)
theorem Oprs.kept {base base' : Nat} {w w1 : World} {v : Value} {xs : List Opr} (h : Oprs base w v xs) (hb : ∀ g, base ≤ g → g < w.heap.size → w1.heap[g]? = w.heap[g]? ∧ base' ≤ g) (hs : w.heap.size ≤ w1.heap.size) : Oprs base' w1 v xs := by
  rcases h with h | ⟨g, o, c, hv, h0, h1, h2, h3⟩
  · exact .inl h
  · refine .inr ⟨g, o, c, hv, (hb g h0 h1).2, Nat.lt_of_lt_of_le h1 hs, h2, fun k hk => ?_⟩
    have key : ∀ j, w1.cell? ⟨g, j, none⟩ = w.cell? ⟨g, j, none⟩ := fun j => World.cell?_of_block (a := ⟨g, j, none⟩) (hb g h0 h1).1
    simp only [key]
    exact h3 k hk
theorem Oprs.below {base : Nat} {w w1 : World} {v : Value} {xs : List Opr} (h : Oprs base w v xs) (hb : Below w.heap.size w w1) : Oprs base w1 v xs :=
  h.kept (fun g h0 h1 => ⟨hb.block g h1, h0⟩) hb.size
theorem Oprs.grown {base : Nat} {w w1 : World} {v : Value} {xs : List Opr} {x : Option Nat} (h : Oprs base w v xs) (hg : w.grownBy w1 x) (hx : ∀ b, x = some b → b < base) : Oprs base w1 v xs :=
  h.kept (fun g h0 h1 => ⟨hg.block g h1 (fun e => by have := hx g e.symm; omega), h0⟩) hg.size
theorem Oprs.mono {base base' : Nat} {w : World} {v : Value} {xs : List Opr} (h : Oprs base w v xs) (hb : base' ≤ base) : Oprs base' w v xs :=
  h.kept (fun _ h0 _ => ⟨rfl, Nat.le_trans hb h0⟩) (Nat.le_refl _)
theorem Oprs.open_ {base : Nat} {w : World} {v : Value} {xs : List Opr} (h : Oprs base w v xs) : ∃ p c, v = .slice p xs.length c ∧ xs.length ≤ 9223372036854775807 ∧ ∀ k, k < xs.length → ∃ g o, p = some ⟨g, o, none⟩ ∧ base ≤ g ∧ g < w.heap.size ∧
    w.cell? ⟨g, o + k * 4, none⟩ = some (.bool (xs.getD k Opr.zero).rd) ∧ w.cell? ⟨g, o + k * 4 + 1, none⟩ = some (.int .i64 (xs.getD k Opr.zero).k) ∧ w.cell? ⟨g, o + k * 4 + 2, none⟩ = some (.int .i64 (xs.getD k Opr.zero).t) ∧ w.cell? ⟨g, o + k * 4 + 3, none⟩ = some (.int .i64 (xs.getD k Opr.zero).n) := by
  rcases h with ⟨⟨p, c, hv⟩, rfl⟩ | ⟨g, o, c, hv, h0, h1, h2, h3⟩
  · exact ⟨p, c, hv.1, by simp, fun k hk => absurd hk (by simp)⟩
  · exact ⟨_, c, hv, h2, fun k hk => ⟨g, o, rfl, h0, h1, h3 k hk⟩⟩
theorem Oprs.nil {base : Nat} {w : World} : Oprs base w (.slice none 0 0) [] := .inl ⟨⟨_, _, rfl, fun _ => rfl⟩, rfl⟩
theorem opr_flat_len (zs : List Opr) : (zs.flatMap Opr.vals).length = zs.length * 4 := by
  induction zs with
  | nil => rfl
  | cons x zs ih => rw [List.flatMap_cons, List.length_append, ih]; simp [Opr.vals]; omega
theorem opr_flat_get : ∀ (zs : List Opr) (k j : Nat), k < zs.length → j < 4 → (zs.flatMap Opr.vals)[k * 4 + j]? = (Opr.vals (zs.getD k Opr.zero))[j]?
  | x :: zs, 0, j, _, hj => by
    rw [List.flatMap_cons, List.getElem?_append_left (by simp [Opr.vals]; omega)]
    simp
  | x :: zs, k + 1, j, hk, hj => by
    rw [List.flatMap_cons, List.getElem?_append_right (by simp [Opr.vals]; omega), show (k + 1) * 4 + j - (Opr.vals x).length = k * 4 + j by simp [Opr.vals]; omega, opr_flat_get zs k j (by simpa using hk) hj]
    rfl
theorem opr_flat_take (zs : List Opr) (m : Nat) : (zs.flatMap Opr.vals).take (m * 4) = (zs.take m).flatMap Opr.vals := by
  induction zs generalizing m with
  | nil => simp
  | cons x zs ih =>
    cases m with
    | zero => simp
    | succ m =>
      rw [List.flatMap_cons, List.take_succ_cons, List.flatMap_cons, ← ih m, List.take_append, List.take_of_length_le (by simp [Opr.vals]; omega)]
      congr 2
      simp [Opr.vals]; omega
theorem opr_vals_one (zs : List Opr) : ∀ u ∈ zs.flatMap Opr.vals, u.oneCell' = true := by
  intro u hu
  obtain ⟨x, _, hx⟩ := List.mem_flatMap.1 hu
  simp only [Opr.vals, List.mem_cons, List.not_mem_nil, or_false] at hx
  rcases hx with rfl | rfl | rfl | rfl <;> rfl
/-- The slice v, which the call made itself from block B on, holds zs. -/
def OwnOpr (B : Nat) (w : World) (v : Value) (zs : List Opr) : Prop := w.ownsRow B 57 4 v zs.length (zs.flatMap Opr.vals)
theorem OwnOpr.nil (B : Nat) (w : World) : OwnOpr B w (.slice none 0 0) [] := World.ownsRow_nil _ _ _ _
theorem OwnOpr.list {B : Nat} {w : World} {v : Value} {zs : List Opr} (h : OwnOpr B w v zs) (hl : zs.length ≤ 9223372036854775807) : Oprs B w v zs := by
  have h' := h
  rcases h.2 with ⟨hv, h0⟩ | ⟨g, cap, cur, hv, hB, h2, _⟩
  · exact .inl ⟨⟨_, _, hv, fun _ => rfl⟩, List.length_eq_zero_iff.1 h0⟩
  · subst hv
    have hc : ∀ k j, k < zs.length → j < 4 → w.cell? ⟨g, 0 + k * 4 + j, none⟩ = (Opr.vals (zs.getD k Opr.zero))[j]? := fun k j hk hj => by
      rw [Nat.zero_add, ← opr_flat_get zs k j hk hj]
      exact World.ownsRow.cellAt h' (k * 4 + j) (by omega)
    exact .inr ⟨g, 0, cap, rfl, hB, heap_lt h2, hl, fun k hk => ⟨hc k 0 hk (by omega), hc k 1 hk (by omega), hc k 2 hk (by omega), hc k 3 hk (by omega)⟩⟩
theorem OwnOpr.kept {B : Nat} {w w1 : World} {v : Value} {zs : List Opr} (h : OwnOpr B w v zs) {row : Option Nat} (hg : w.grownBy w1 row) (hne : v.ownBlock = none ∨ v.ownBlock ≠ row) : OwnOpr B w1 v zs := World.ownsRow.kept h hg hne
theorem OwnOpr.below {B : Nat} {w w1 : World} {v : Value} {zs : List Opr} (h : OwnOpr B w v zs) (hb : Below w.heap.size w w1) : OwnOpr B w1 v zs :=
  World.ownsRow.kept h (row := none) ⟨hb.os, hb.tape, hb.output, hb.size, fun k hk _ => hb.block k hk⟩ (by cases v.ownBlock <;> simp)
theorem OwnOpr.base {B : Nat} {w : World} {v : Value} {zs : List Opr} (h : OwnOpr B w v zs) : ∀ k, v.ownBlock = some k → B ≤ k ∧ k < w.heap.size := World.ownsRow.lt h
/-- The first m of it, in the same place. -/
theorem OwnOpr.cut {B : Nat} {w : World} {p : Option Addr} {n c : Nat} {zs : List Opr} (h : OwnOpr B w (.slice p n c) zs) {m : Nat} (hm : m ≤ zs.length) : OwnOpr B w (.slice p m c) (zs.take m) := by
  obtain ⟨hl, h⟩ := h
  have hlen : (zs.take m).length = m := by rw [List.length_take]; omega
  refine ⟨by rw [opr_flat_len], ?_⟩
  rw [hlen]
  rcases h with ⟨hv, h0⟩ | ⟨g, cap, cur, hv, h1, h2, h3, h4, h5, h6⟩
  · injection hv with e1 e2 e3
    subst e1 e3
    obtain rfl : m = 0 := by omega
    exact .inl ⟨rfl, rfl⟩
  · injection hv with e1 e2 e3
    subst e1 e3
    refine .inr ⟨g, c, cur, rfl, h1, h2, by omega, h4, h5, ?_⟩
    rw [← opr_flat_take, ← h6, List.take_take]
    congr 1
    have := Nat.mul_le_mul_right 4 hm
    omega
theorem opr_info : (Tryz.prog.info? 57).map (fun i => (i.zero, i.size, i.bytes)) = some (some (.agg #[.bool false, .int .i64 0, .int .i64 0, .int .i64 0]), 4, 32) := by kernel_rfl
theorem run_append_oprs {B base : Nat} {w : World} {v u : Value} {zs ys : List Opr} (ty : TypeId)
    (hB : B ≤ w.heap.size) (hown : OwnOpr B w v zs) (hys : Oprs base w u ys) (hl : zs.length + ys.length ≤ 1000000) :
    ∃ v' w', (Builtin.append_ #[40, 40] ty #[v, u]).run Tryz.prog w = .ok v' w' ∧ OwnOpr B w' v' (zs ++ ys) ∧ w.grownBy w' v.ownBlock ∧ (v'.ownBlock = v.ownBlock ∨ v'.ownBlock = some w.heap.size) := by
  obtain ⟨i0, hi, hz0, hz1, hz2⟩ := info_parts opr_info
  rcases hys with ⟨⟨p, c, rfl, hpc⟩, rfl⟩ | ⟨g, o', c, rfl, _, _, _, hc⟩
  · cases p with
    | none =>
      obtain rfl := hpc rfl
      exact ⟨v, w, run_append_owned_none (P := Tryz.prog) (w := w) B 40 ty 57 i0 4 Tryz.underlying40 hi v zs.length (zs.flatMap Opr.vals) hown, by rw [List.append_nil]; exact hown, World.grownBy.refl _ _, .inl rfl⟩
    | some ad =>
      obtain ⟨v', w', hr, h2, h3, _, h5⟩ := run_append_own_at (P := Tryz.prog) w B 40 ty 57 i0 (.agg #[.bool false, .int .i64 0, .int .i64 0, .int .i64 0]) 4 32 Tryz.underlying40 hi hz0 hz1 hz2 rfl (by decide) v zs.length (zs.flatMap Opr.vals) hown ad 0 c [] (by simp) (by simp) (by simp) (by simp only [maxLen]; omega) (by omega) hB
      refine ⟨v', w', hr, ?_, h3, h5⟩
      rw [List.append_nil]
      unfold OwnOpr
      simpa using h2
  · obtain ⟨v', w', hr, h2, h3, _, h5⟩ := run_append_own_at (P := Tryz.prog) w B 40 ty 57 i0 (.agg #[.bool false, .int .i64 0, .int .i64 0, .int .i64 0]) 4 32 Tryz.underlying40 hi hz0 hz1 hz2 rfl (by decide) v zs.length (zs.flatMap Opr.vals) hown ⟨g, o', none⟩ ys.length c (ys.flatMap Opr.vals) (opr_flat_len ys) (by
      intro t y hy
      have ht : t < ys.length * 4 := by rw [← opr_flat_len ys]; exact (List.getElem?_eq_some_iff.1 hy).1
      have hk : t / 4 < ys.length := by omega
      have hr : t % 4 < 4 := Nat.mod_lt _ (by decide)
      have e : t = t / 4 * 4 + t % 4 := by omega
      have hcc := hc (t / 4) hk
      rw [e, opr_flat_get ys _ _ hk hr] at hy
      rw [add_plain, e]
      generalize t / 4 = k at hcc hy
      generalize t % 4 = j at hr hy
      obtain ⟨c0, c1, c2, c3⟩ := hcc
      match j, hr, hy with
      | 0, _, hy => simp [Opr.vals] at hy; subst hy; simpa [Nat.add_assoc] using c0
      | 1, _, hy => simp [Opr.vals] at hy; subst hy; simpa [Nat.add_assoc] using c1
      | 2, _, hy => simp [Opr.vals] at hy; subst hy; simpa [Nat.add_assoc] using c2
      | 3, _, hy => simp [Opr.vals] at hy; subst hy; simpa [Nat.add_assoc] using c3) (opr_vals_one ys) (by simp only [maxLen]; omega) (by omega) hB
    refine ⟨v', w', hr, ?_, h3, h5⟩
    unfold OwnOpr
    rw [List.length_append, List.flatMap_append]
    exact h2
/-- Some are put behind a slice of the call's own. -/
theorem append_oprs {ops : Array Oper} {rest : List Oper} {o : Oper} {a : Act} {Q : Exit → Act → World → Prop} (hgd : o.guard = none) (s x : Operand)
    (ho : o.op = .call { callee := .builtin .append, args := #[s, x], argTypes := #[40, 40] }) {B base : Nat} {w : World} {v u : Value} {zs ys : List Opr}
    (hB : B ≤ w.heap.size) (hown : OwnOpr B w v zs) (hs : a.eval s = v) (hys : Oprs base w u ys) (hx : a.eval x = u) (hl : zs.length + ys.length ≤ 1000000)
    (h : ∀ v' w', OwnOpr B w' v' (zs ++ ys) → w.grownBy w' v.ownBlock → (v'.ownBlock = v.ownBlock ∨ v'.ownBlock = some w.heap.size) → wpList Tryz.prog ops Q rest (a.put o.dst v') w') :
    wpList Tryz.prog ops Q (o :: rest) a w := by
  refine wpList_plain hgd fun K hK => ?_
  obtain ⟨v', w', hr, h2, h3, h5⟩ := run_append_oprs o.type hB hown hys hl
  unfold Oper.wp execOp
  simp only [ho, resolve, invoke, builtin, Sem.run_bind, Sem.run_pure, Result.andThen_ok, List.map_toArray, List.map_cons, List.map_nil, hs, hx, hr]
  exact hK _ _ (h v' w' h2 h3 h5)
/-- The same, as one step of a region that draws its order. -/
theorem step_append_oprs {ops : Array Oper} {o : Oper} {a : Act} {w : World} {K : Act → World → Prop} {Q : Exit → Act → World → Prop} {E : Prop} (hgd : o.guard = none) (s x : Operand)
    (ho : o.op = .call { callee := .builtin .append, args := #[s, x], argTypes := #[40, 40] }) {B base : Nat} {v u : Value} {zs ys : List Opr}
    (hB : B ≤ w.heap.size) (hown : OwnOpr B w v zs) (hs : a.eval s = v) (hys : Oprs base w u ys) (hx : a.eval x = u) (hl : zs.length + ys.length ≤ 1000000)
    (hK : ∀ v' w', OwnOpr B w' v' (zs ++ ys) → w.grownBy w' v.ownBlock → (v'.ownBlock = v.ownBlock ∨ v'.ownBlock = some w.heap.size) → K (a.put o.dst v') w') :
    if Region.wanted o (yielded ops a.tmps) = true then Oper.wp Tryz.prog o a w K Q else E := by
  rw [if_pos (by simp [Region.wanted, hgd])]
  obtain ⟨v', w', hr, h2, h3, h5⟩ := run_append_oprs o.type hB hown hys hl
  unfold Oper.wp
  simp [execOp, ho, resolve, invoke, builtin, hs, hx, hr, Result.andThen]
  exact hK v' w' h2 h3 h5
theorem OwnOpr.lay {B : Nat} {w X : World} {v : Value} {zs : List Opr} (h : OwnOpr B w v zs) (hx : X.heap = w.heap) (o : Obj) : OwnOpr B (X.alloc o) v zs := by
  have h1 : OwnOpr B X v zs := by
    unfold OwnOpr World.ownsRow at *
    rw [hx]
    exact h
  exact World.ownsRow.alloc h1 o
theorem ownOpr_empty {B : Nat} {W : World} {g : Nat} (hB : B ≤ g) (h : W.heap[g]? = some (.cells #[] 57)) : OwnOpr B W (.slice (some ⟨g, 0, none⟩) 0 0) [] :=
  ⟨rfl, .inr ⟨g, 0, #[], rfl, hB, h, Nat.le_refl _, by simp [maxLen], rfl, rfl⟩⟩
/-- One that is typed out. -/
theorem opr_at {X : World} {g : Nat} (c : Opr) (h : X.heap[g]? = some (.cells #[.bool c.rd, .int .i64 c.k, .int .i64 c.t, .int .i64 c.n] 57)) : Oprs 0 X (.slice (some ⟨g, 0, none⟩) 1 1) [c] := by
  refine .inr ⟨g, 0, 1, rfl, Nat.zero_le _, heap_lt h, by simp, fun k hk => ?_⟩
  have : k = 0 := by simpa using hk
  subst this
  simp only [World.cell?, h]
  simp
theorem opr_lit (c : Opr) (X : World) : Oprs 0 (X.alloc (.cells #[.bool c.rd, .int .i64 c.k, .int .i64 c.t, .int .i64 c.n] 57)) (.slice (some ⟨X.heap.size, 0, none⟩) 1 1) [c] := opr_at c (heap_alloc_at _ _ _ rfl)

section
variable {H : Type} {enc : TypeId × Value → H} {w : World}
set_option maxRecDepth 100000 in
theorem open_opr_cells {n : Nat} {u : Value} {y : DataW H × List MemPlace} (h : DataW.trod enc Tryz.prog w 0 (fun _ => true) true n 40 [u] = some y) : ∃ xs, (∃ p c, u = .slice p xs.length c ∧ xs.length ≤ c) ∧ Oprs 0 w u xs ∧ ∀ x ∈ xs, Opr.ok x := by
  obtain ⟨q, len, cap, rfl, hqc, hlc, hl, hc⟩ := open_structs2 Tryz.underlying40 Tryz.underlying57 (by kernel_rfl) (by kernel_rfl) (by decide) h
  have hx : ∀ k, ∃ x : Opr, Opr.ok x ∧ (k < len → ∃ g o, q = some ⟨g, o, none⟩ ∧ g < w.heap.size ∧ w.cell? ⟨g, o + k * 4, none⟩ = some (.bool x.rd) ∧ w.cell? ⟨g, o + k * 4 + 1, none⟩ = some (.int .i64 x.k) ∧ w.cell? ⟨g, o + k * 4 + 2, none⟩ = some (.int .i64 x.t) ∧ w.cell? ⟨g, o + k * 4 + 3, none⟩ = some (.int .i64 x.n)) := fun k => by
    by_cases hk : k < len
    · obtain ⟨g, o, ha, hg, hcc⟩ := hc k hk
      obtain ⟨u0, y0, n0, hc0, ht0⟩ := hcc 0 _ rfl
      obtain ⟨z0, hz0, _⟩ := DataW.trod_bool Tryz.underlying4 ht0
      obtain rfl := (List.cons.inj hz0).1
      obtain ⟨u1, y1, n1, hc1, ht1⟩ := hcc 1 _ rfl
      obtain ⟨z1, hz1, _, hb1⟩ := DataW.trod_int Tryz.underlying3 ht1
      obtain rfl := (List.cons.inj hz1).1
      obtain ⟨u2, y2, n2, hc2, ht2⟩ := hcc 2 _ rfl
      obtain ⟨z2, hz2, _, hb2⟩ := DataW.trod_int Tryz.underlying3 ht2
      obtain rfl := (List.cons.inj hz2).1
      obtain ⟨u3, y3, n3, hc3, ht3⟩ := hcc 3 _ rfl
      obtain ⟨z3, hz3, _, hb3⟩ := DataW.trod_int Tryz.underlying3 ht3
      obtain rfl := (List.cons.inj hz3).1
      exact ⟨⟨z0, z1, z2, z3⟩, ⟨bounds_i64 hb1, bounds_i64 hb2, bounds_i64 hb3⟩, fun _ => ⟨g, o, ha, hg, hc0, hc1, hc2, hc3⟩⟩
    · exact ⟨Opr.zero, ⟨⟨by decide, by decide⟩, ⟨by decide, by decide⟩, ⟨by decide, by decide⟩⟩, fun h => absurd h hk⟩
  obtain ⟨f, hf⟩ := Classical.axiomOfChoice hx
  have hlen : ((List.range len).map f).length = len := by simp
  refine ⟨(List.range len).map f, ⟨q, cap, by rw [hlen], by rw [hlen]; exact hlc⟩, ?_, fun x hx => ?_⟩
  · by_cases h0 : len = 0
    · subst h0
      exact .inl ⟨⟨_, _, rfl, hqc⟩, rfl⟩
    · obtain ⟨g, o, hq, hg, _⟩ := (hf 0).2 (by omega)
      subst hq
      refine .inr ⟨g, o, cap, by rw [hlen], Nat.zero_le _, hg, by rw [hlen]; exact hl, fun k hk => ?_⟩
      rw [hlen] at hk
      obtain ⟨g', o', hq, _, hcc⟩ := (hf k).2 hk
      simp only [Option.some.injEq, Addr.mk.injEq, and_true] at hq
      obtain ⟨rfl, rfl⟩ := hq
      have hget : ((List.range len).map f).getD k Opr.zero = f k := by simp [List.getD_eq_getElem?_getD, hk]
      rw [hget]
      exact hcc
  · obtain ⟨k, _, rfl⟩ := List.mem_map.1 hx
    exact (hf k).1
set_option maxRecDepth 100000 in
theorem open_oprs {r : Reach} {b0 : Nat} {v : Value} {d : DataW H} {p : List MemPlace} (hv : Value.okWide Tryz.prog w r b0 40 v) (h : DataW.Trod enc Tryz.prog w 0 (fun _ => true) true 40 v d p) : ∃ xs, (∃ p c, v = .slice p xs.length c ∧ xs.length ≤ c) ∧ Oprs 0 w v xs ∧ ∀ x ∈ xs, Opr.ok x := by
  obtain ⟨a0, len, cap, rfl⟩ := okWide_slice Tryz.underlying40 hv
  obtain ⟨fuel, hf⟩ := h
  exact open_opr_cells hf
set_option maxRecDepth 100000 in
theorem open_opr {r : Reach} {b0 : Nat} {v : Value} {d : DataW H} {p : List MemPlace} {base : Nat} {spare : Nat → Bool} {held : Bool} (hv : Value.okWide Tryz.prog w r b0 57 v) (h : DataW.Trod enc Tryz.prog w base spare held 57 v d p) : ∃ x : Opr, Opr.ok x ∧ v = .agg #[.bool x.rd, .int .i64 x.k, .int .i64 x.t, .int .i64 x.n] := by
  obtain ⟨cs, rfl, hsz⟩ := okWide_struct Tryz.underlying57 hv
  obtain ⟨fuel, hfu⟩ := h
  obtain ⟨xs, n', _, _, hcl, hxl, hg⟩ := DataW.trod_struct Tryz.underlying57 hfu
  have hsz' : cs.size = 4 := hsz
  have hxl' : xs.length = 4 := hxl
  obtain ⟨l⟩ := cs
  obtain ⟨u0, u1, u2, u3, rfl⟩ : ∃ u0 u1 u2 u3, l = [u0, u1, u2, u3] := by
    match l, hsz' with
    | [a0, a1, a2, a3], _ => exact ⟨a0, a1, a2, a3, rfl⟩
  have h0 := hg 0 _ rfl
  rw [List.getElem?_eq_getElem (by omega)] at h0
  obtain ⟨z0, hz0, _⟩ := DataW.trod_bool Tryz.underlying4 h0
  have e0 : [u0] = _ := hz0
  obtain rfl := (List.cons.inj e0).1
  have h1 := hg 1 _ rfl
  rw [List.getElem?_eq_getElem (by omega)] at h1
  obtain ⟨z1, hz1, _, hb1⟩ := DataW.trod_int Tryz.underlying3 h1
  have e1 : [u1] = _ := hz1
  obtain rfl := (List.cons.inj e1).1
  have h2 := hg 2 _ rfl
  rw [List.getElem?_eq_getElem (by omega)] at h2
  obtain ⟨z2, hz2, _, hb2⟩ := DataW.trod_int Tryz.underlying3 h2
  have e2 : [u2] = _ := hz2
  obtain rfl := (List.cons.inj e2).1
  have h3 := hg 3 _ rfl
  rw [List.getElem?_eq_getElem (by omega)] at h3
  obtain ⟨z3, hz3, _, hb3⟩ := DataW.trod_int Tryz.underlying3 h3
  have e3 : [u3] = _ := hz3
  obtain rfl := (List.cons.inj e3).1
  exact ⟨⟨z0, z1, z2, z3⟩, ⟨bounds_i64 hb1, bounds_i64 hb2, bounds_i64 hb3⟩, rfl⟩
end
end Go.Proofs.YtcmafmdcgkpagaaGreat.F
namespace Go.Proofs.YtcmafmdcgkpagaaGreat.F
open Go.ChangeShapes Go.WideShapes Go.ChangeAt Go.RowKit Base
/-- A value of the struct. -/
structure Ver where
  t : Int
  k : Int
  n : Int
def Ver.zero : Ver := ⟨0, 0, 0⟩
/-- Its cells. -/
def Ver.vals (x : Ver) : List Value := [.int .i64 x.t, .int .i64 x.k, .int .i64 x.n]
/-- Its fields are ints of 64 bits. -/
def Ver.ok (x : Ver) : Prop := (-9223372036854775808 ≤ x.t ∧ x.t ≤ 9223372036854775807) ∧ (-9223372036854775808 ≤ x.k ∧ x.k ≤ 9223372036854775807) ∧ (-9223372036854775808 ≤ x.n ∧ x.n ≤ 9223372036854775807)
/-- The slice v, whose elements lie from block base on, holds xs. -/
def Vers (base : Nat) (w : World) (v : Value) (xs : List Ver) : Prop :=
  ((∃ p c, v = .slice p 0 c ∧ (p = none → c = 0)) ∧ xs = []) ∨ ∃ g o c, v = .slice (some ⟨g, o, none⟩) xs.length c ∧ base ≤ g ∧ g < w.heap.size ∧ xs.length ≤ 9223372036854775807 ∧ ∀ k, k < xs.length →
    w.cell? ⟨g, o + k * 3, none⟩ = some (.int .i64 (xs.getD k Ver.zero).t) ∧ w.cell? ⟨g, o + k * 3 + 1, none⟩ = some (.int .i64 (xs.getD k Ver.zero).k) ∧ w.cell? ⟨g, o + k * 3 + 2, none⟩ = some (.int .i64 (xs.getD k Ver.zero).n)
theorem Vers.kept {base base' : Nat} {w w1 : World} {v : Value} {xs : List Ver} (h : Vers base w v xs) (hb : ∀ g, base ≤ g → g < w.heap.size → w1.heap[g]? = w.heap[g]? ∧ base' ≤ g) (hs : w.heap.size ≤ w1.heap.size) : Vers base' w1 v xs := by
  rcases h with h | ⟨g, o, c, hv, h0, h1, h2, h3⟩
  · exact .inl h
  · refine .inr ⟨g, o, c, hv, (hb g h0 h1).2, Nat.lt_of_lt_of_le h1 hs, h2, fun k hk => ?_⟩
    have key : ∀ j, w1.cell? ⟨g, j, none⟩ = w.cell? ⟨g, j, none⟩ := fun j => World.cell?_of_block (a := ⟨g, j, none⟩) (hb g h0 h1).1
    simp only [key]
    exact h3 k hk
theorem Vers.below {base : Nat} {w w1 : World} {v : Value} {xs : List Ver} (h : Vers base w v xs) (hb : Below w.heap.size w w1) : Vers base w1 v xs :=
  h.kept (fun g h0 h1 => ⟨hb.block g h1, h0⟩) hb.size
theorem Vers.grown {base : Nat} {w w1 : World} {v : Value} {xs : List Ver} {x : Option Nat} (h : Vers base w v xs) (hg : w.grownBy w1 x) (hx : ∀ b, x = some b → b < base) : Vers base w1 v xs :=
  h.kept (fun g h0 h1 => ⟨hg.block g h1 (fun e => by have := hx g e.symm; omega), h0⟩) hg.size
theorem Vers.mono {base base' : Nat} {w : World} {v : Value} {xs : List Ver} (h : Vers base w v xs) (hb : base' ≤ base) : Vers base' w v xs :=
  h.kept (fun _ h0 _ => ⟨rfl, Nat.le_trans hb h0⟩) (Nat.le_refl _)
theorem Vers.open_ {base : Nat} {w : World} {v : Value} {xs : List Ver} (h : Vers base w v xs) : ∃ p c, v = .slice p xs.length c ∧ xs.length ≤ 9223372036854775807 ∧ ∀ k, k < xs.length → ∃ g o, p = some ⟨g, o, none⟩ ∧ base ≤ g ∧ g < w.heap.size ∧
    w.cell? ⟨g, o + k * 3, none⟩ = some (.int .i64 (xs.getD k Ver.zero).t) ∧ w.cell? ⟨g, o + k * 3 + 1, none⟩ = some (.int .i64 (xs.getD k Ver.zero).k) ∧ w.cell? ⟨g, o + k * 3 + 2, none⟩ = some (.int .i64 (xs.getD k Ver.zero).n) := by
  rcases h with ⟨⟨p, c, hv⟩, rfl⟩ | ⟨g, o, c, hv, h0, h1, h2, h3⟩
  · exact ⟨p, c, hv.1, by simp, fun k hk => absurd hk (by simp)⟩
  · exact ⟨_, c, hv, h2, fun k hk => ⟨g, o, rfl, h0, h1, h3 k hk⟩⟩
theorem Vers.nil {base : Nat} {w : World} : Vers base w (.slice none 0 0) [] := .inl ⟨⟨_, _, rfl, fun _ => rfl⟩, rfl⟩
theorem ver_flat_len (zs : List Ver) : (zs.flatMap Ver.vals).length = zs.length * 3 := by
  induction zs with
  | nil => rfl
  | cons x zs ih => rw [List.flatMap_cons, List.length_append, ih]; simp [Ver.vals]; omega
theorem ver_flat_get : ∀ (zs : List Ver) (k j : Nat), k < zs.length → j < 3 → (zs.flatMap Ver.vals)[k * 3 + j]? = (Ver.vals (zs.getD k Ver.zero))[j]?
  | x :: zs, 0, j, _, hj => by
    rw [List.flatMap_cons, List.getElem?_append_left (by simp [Ver.vals]; omega)]
    simp
  | x :: zs, k + 1, j, hk, hj => by
    rw [List.flatMap_cons, List.getElem?_append_right (by simp [Ver.vals]; omega), show (k + 1) * 3 + j - (Ver.vals x).length = k * 3 + j by simp [Ver.vals]; omega, ver_flat_get zs k j (by simpa using hk) hj]
    rfl
theorem ver_flat_take (zs : List Ver) (m : Nat) : (zs.flatMap Ver.vals).take (m * 3) = (zs.take m).flatMap Ver.vals := by
  induction zs generalizing m with
  | nil => simp
  | cons x zs ih =>
    cases m with
    | zero => simp
    | succ m =>
      rw [List.flatMap_cons, List.take_succ_cons, List.flatMap_cons, ← ih m, List.take_append, List.take_of_length_le (by simp [Ver.vals]; omega)]
      congr 2
      simp [Ver.vals]; omega
theorem ver_vals_one (zs : List Ver) : ∀ u ∈ zs.flatMap Ver.vals, u.oneCell' = true := by
  intro u hu
  obtain ⟨x, _, hx⟩ := List.mem_flatMap.1 hu
  simp only [Ver.vals, List.mem_cons, List.not_mem_nil, or_false] at hx
  rcases hx with rfl | rfl | rfl <;> rfl
/-- The slice v, which the call made itself from block B on, holds zs. -/
def OwnVer (B : Nat) (w : World) (v : Value) (zs : List Ver) : Prop := w.ownsRow B 83 3 v zs.length (zs.flatMap Ver.vals)
theorem OwnVer.nil (B : Nat) (w : World) : OwnVer B w (.slice none 0 0) [] := World.ownsRow_nil _ _ _ _
theorem OwnVer.list {B : Nat} {w : World} {v : Value} {zs : List Ver} (h : OwnVer B w v zs) (hl : zs.length ≤ 9223372036854775807) : Vers B w v zs := by
  have h' := h
  rcases h.2 with ⟨hv, h0⟩ | ⟨g, cap, cur, hv, hB, h2, _⟩
  · exact .inl ⟨⟨_, _, hv, fun _ => rfl⟩, List.length_eq_zero_iff.1 h0⟩
  · subst hv
    have hc : ∀ k j, k < zs.length → j < 3 → w.cell? ⟨g, 0 + k * 3 + j, none⟩ = (Ver.vals (zs.getD k Ver.zero))[j]? := fun k j hk hj => by
      rw [Nat.zero_add, ← ver_flat_get zs k j hk hj]
      exact World.ownsRow.cellAt h' (k * 3 + j) (by omega)
    exact .inr ⟨g, 0, cap, rfl, hB, heap_lt h2, hl, fun k hk => ⟨hc k 0 hk (by omega), hc k 1 hk (by omega), hc k 2 hk (by omega)⟩⟩
theorem OwnVer.kept {B : Nat} {w w1 : World} {v : Value} {zs : List Ver} (h : OwnVer B w v zs) {row : Option Nat} (hg : w.grownBy w1 row) (hne : v.ownBlock = none ∨ v.ownBlock ≠ row) : OwnVer B w1 v zs := World.ownsRow.kept h hg hne
theorem OwnVer.below {B : Nat} {w w1 : World} {v : Value} {zs : List Ver} (h : OwnVer B w v zs) (hb : Below w.heap.size w w1) : OwnVer B w1 v zs :=
  World.ownsRow.kept h (row := none) ⟨hb.os, hb.tape, hb.output, hb.size, fun k hk _ => hb.block k hk⟩ (by cases v.ownBlock <;> simp)
theorem OwnVer.base {B : Nat} {w : World} {v : Value} {zs : List Ver} (h : OwnVer B w v zs) : ∀ k, v.ownBlock = some k → B ≤ k ∧ k < w.heap.size := World.ownsRow.lt h
/-- The first m of it, in the same place. -/
theorem OwnVer.cut {B : Nat} {w : World} {p : Option Addr} {n c : Nat} {zs : List Ver} (h : OwnVer B w (.slice p n c) zs) {m : Nat} (hm : m ≤ zs.length) : OwnVer B w (.slice p m c) (zs.take m) := by
  obtain ⟨hl, h⟩ := h
  have hlen : (zs.take m).length = m := by rw [List.length_take]; omega
  refine ⟨by rw [ver_flat_len], ?_⟩
  rw [hlen]
  rcases h with ⟨hv, h0⟩ | ⟨g, cap, cur, hv, h1, h2, h3, h4, h5, h6⟩
  · injection hv with e1 e2 e3
    subst e1 e3
    obtain rfl : m = 0 := by omega
    exact .inl ⟨rfl, rfl⟩
  · injection hv with e1 e2 e3
    subst e1 e3
    refine .inr ⟨g, c, cur, rfl, h1, h2, by omega, h4, h5, ?_⟩
    rw [← ver_flat_take, ← h6, List.take_take]
    congr 1
    have := Nat.mul_le_mul_right 3 hm
    omega
theorem ver_info : (Tryz.prog.info? 83).map (fun i => (i.zero, i.size, i.bytes)) = some (some (.agg #[.int .i64 0, .int .i64 0, .int .i64 0]), 3, 24) := by kernel_rfl
theorem run_append_vers {B base : Nat} {w : World} {v u : Value} {zs ys : List Ver} (ty : TypeId)
    (hB : B ≤ w.heap.size) (hown : OwnVer B w v zs) (hys : Vers base w u ys) (hl : zs.length + ys.length ≤ 1000000) :
    ∃ v' w', (Builtin.append_ #[80, 80] ty #[v, u]).run Tryz.prog w = .ok v' w' ∧ OwnVer B w' v' (zs ++ ys) ∧ w.grownBy w' v.ownBlock ∧ (v'.ownBlock = v.ownBlock ∨ v'.ownBlock = some w.heap.size) := by
  obtain ⟨i0, hi, hz0, hz1, hz2⟩ := info_parts ver_info
  rcases hys with ⟨⟨p, c, rfl, hpc⟩, rfl⟩ | ⟨g, o', c, rfl, _, _, _, hc⟩
  · cases p with
    | none =>
      obtain rfl := hpc rfl
      exact ⟨v, w, run_append_owned_none (P := Tryz.prog) (w := w) B 80 ty 83 i0 3 Tryz.underlying80 hi v zs.length (zs.flatMap Ver.vals) hown, by rw [List.append_nil]; exact hown, World.grownBy.refl _ _, .inl rfl⟩
    | some ad =>
      obtain ⟨v', w', hr, h2, h3, _, h5⟩ := run_append_own_at (P := Tryz.prog) w B 80 ty 83 i0 (.agg #[.int .i64 0, .int .i64 0, .int .i64 0]) 3 24 Tryz.underlying80 hi hz0 hz1 hz2 rfl (by decide) v zs.length (zs.flatMap Ver.vals) hown ad 0 c [] (by simp) (by simp) (by simp) (by simp only [maxLen]; omega) (by omega) hB
      refine ⟨v', w', hr, ?_, h3, h5⟩
      rw [List.append_nil]
      unfold OwnVer
      simpa using h2
  · obtain ⟨v', w', hr, h2, h3, _, h5⟩ := run_append_own_at (P := Tryz.prog) w B 80 ty 83 i0 (.agg #[.int .i64 0, .int .i64 0, .int .i64 0]) 3 24 Tryz.underlying80 hi hz0 hz1 hz2 rfl (by decide) v zs.length (zs.flatMap Ver.vals) hown ⟨g, o', none⟩ ys.length c (ys.flatMap Ver.vals) (ver_flat_len ys) (by
      intro t y hy
      have ht : t < ys.length * 3 := by rw [← ver_flat_len ys]; exact (List.getElem?_eq_some_iff.1 hy).1
      have hk : t / 3 < ys.length := by omega
      have hr : t % 3 < 3 := Nat.mod_lt _ (by decide)
      have e : t = t / 3 * 3 + t % 3 := by omega
      have hcc := hc (t / 3) hk
      rw [e, ver_flat_get ys _ _ hk hr] at hy
      rw [add_plain, e]
      generalize t / 3 = k at hcc hy
      generalize t % 3 = j at hr hy
      obtain ⟨c0, c1, c2⟩ := hcc
      match j, hr, hy with
      | 0, _, hy => simp [Ver.vals] at hy; subst hy; simpa [Nat.add_assoc] using c0
      | 1, _, hy => simp [Ver.vals] at hy; subst hy; simpa [Nat.add_assoc] using c1
      | 2, _, hy => simp [Ver.vals] at hy; subst hy; simpa [Nat.add_assoc] using c2) (ver_vals_one ys) (by simp only [maxLen]; omega) (by omega) hB
    refine ⟨v', w', hr, ?_, h3, h5⟩
    unfold OwnVer
    rw [List.length_append, List.flatMap_append]
    exact h2
/-- Some are put behind a slice of the call's own. -/
theorem append_vers {ops : Array Oper} {rest : List Oper} {o : Oper} {a : Act} {Q : Exit → Act → World → Prop} (hgd : o.guard = none) (s x : Operand)
    (ho : o.op = .call { callee := .builtin .append, args := #[s, x], argTypes := #[80, 80] }) {B base : Nat} {w : World} {v u : Value} {zs ys : List Ver}
    (hB : B ≤ w.heap.size) (hown : OwnVer B w v zs) (hs : a.eval s = v) (hys : Vers base w u ys) (hx : a.eval x = u) (hl : zs.length + ys.length ≤ 1000000)
    (h : ∀ v' w', OwnVer B w' v' (zs ++ ys) → w.grownBy w' v.ownBlock → (v'.ownBlock = v.ownBlock ∨ v'.ownBlock = some w.heap.size) → wpList Tryz.prog ops Q rest (a.put o.dst v') w') :
    wpList Tryz.prog ops Q (o :: rest) a w := by
  refine wpList_plain hgd fun K hK => ?_
  obtain ⟨v', w', hr, h2, h3, h5⟩ := run_append_vers o.type hB hown hys hl
  unfold Oper.wp execOp
  simp only [ho, resolve, invoke, builtin, Sem.run_bind, Sem.run_pure, Result.andThen_ok, List.map_toArray, List.map_cons, List.map_nil, hs, hx, hr]
  exact hK _ _ (h v' w' h2 h3 h5)
/-- The same, as one step of a region that draws its order. -/
theorem step_append_vers {ops : Array Oper} {o : Oper} {a : Act} {w : World} {K : Act → World → Prop} {Q : Exit → Act → World → Prop} {E : Prop} (hgd : o.guard = none) (s x : Operand)
    (ho : o.op = .call { callee := .builtin .append, args := #[s, x], argTypes := #[80, 80] }) {B base : Nat} {v u : Value} {zs ys : List Ver}
    (hB : B ≤ w.heap.size) (hown : OwnVer B w v zs) (hs : a.eval s = v) (hys : Vers base w u ys) (hx : a.eval x = u) (hl : zs.length + ys.length ≤ 1000000)
    (hK : ∀ v' w', OwnVer B w' v' (zs ++ ys) → w.grownBy w' v.ownBlock → (v'.ownBlock = v.ownBlock ∨ v'.ownBlock = some w.heap.size) → K (a.put o.dst v') w') :
    if Region.wanted o (yielded ops a.tmps) = true then Oper.wp Tryz.prog o a w K Q else E := by
  rw [if_pos (by simp [Region.wanted, hgd])]
  obtain ⟨v', w', hr, h2, h3, h5⟩ := run_append_vers o.type hB hown hys hl
  unfold Oper.wp
  simp [execOp, ho, resolve, invoke, builtin, hs, hx, hr, Result.andThen]
  exact hK v' w' h2 h3 h5
theorem OwnVer.lay {B : Nat} {w X : World} {v : Value} {zs : List Ver} (h : OwnVer B w v zs) (hx : X.heap = w.heap) (o : Obj) : OwnVer B (X.alloc o) v zs := by
  have h1 : OwnVer B X v zs := by
    unfold OwnVer World.ownsRow at *
    rw [hx]
    exact h
  exact World.ownsRow.alloc h1 o
theorem ownVer_empty {B : Nat} {W : World} {g : Nat} (hB : B ≤ g) (h : W.heap[g]? = some (.cells #[] 83)) : OwnVer B W (.slice (some ⟨g, 0, none⟩) 0 0) [] :=
  ⟨rfl, .inr ⟨g, 0, #[], rfl, hB, h, Nat.le_refl _, by simp [maxLen], rfl, rfl⟩⟩
/-- One that is typed out. -/
theorem ver_at {X : World} {g : Nat} (c : Ver) (h : X.heap[g]? = some (.cells #[.int .i64 c.t, .int .i64 c.k, .int .i64 c.n] 83)) : Vers 0 X (.slice (some ⟨g, 0, none⟩) 1 1) [c] := by
  refine .inr ⟨g, 0, 1, rfl, Nat.zero_le _, heap_lt h, by simp, fun k hk => ?_⟩
  have : k = 0 := by simpa using hk
  subst this
  simp only [World.cell?, h]
  simp
theorem ver_lit (c : Ver) (X : World) : Vers 0 (X.alloc (.cells #[.int .i64 c.t, .int .i64 c.k, .int .i64 c.n] 83)) (.slice (some ⟨X.heap.size, 0, none⟩) 1 1) [c] := ver_at c (heap_alloc_at _ _ _ rfl)

theorem ver_flat : flatB Tryz.prog 8 83 = true := by kernel_rfl
theorem ver_cells : Tryz.prog.cellsOf 83 = 3 := by kernel_rfl
section
variable {H : Type} {enc : TypeId × Value → H} {w : World}
set_option maxRecDepth 100000 in
theorem open_vers {r : Reach} {b0 : Nat} {v : Value} {d : DataW H} {p : List MemPlace} (hv : Value.okWide Tryz.prog w r b0 80 v) (h : DataW.Trod enc Tryz.prog w 0 (fun _ => true) true 80 v d p) : ∃ xs, (∃ p c, v = .slice p xs.length c ∧ xs.length ≤ c) ∧ Vers 0 w v xs ∧ ∀ x ∈ xs, Ver.ok x := by
  obtain ⟨q, len, cap, G, rfl, hqc, hlc, hl, hG, hc⟩ := open_flat Tryz.underlying80 ver_flat (by rw [ver_cells]; decide) hv h
  rw [ver_cells] at hc
  have hlen : ((List.range len).map fun k => (⟨G k 0, G k 1, G k 2⟩ : Ver)).length = len := by simp
  refine ⟨(List.range len).map fun k => ⟨G k 0, G k 1, G k 2⟩, ⟨q, cap, by rw [hlen], by rw [hlen]; exact hlc⟩, ?_, fun x hx => ?_⟩
  · by_cases h0 : len = 0
    · subst h0
      exact .inl ⟨⟨_, _, rfl, hqc⟩, rfl⟩
    · obtain ⟨g, o, hq, hg, _⟩ := hc 0 (by omega)
      subst hq
      refine .inr ⟨g, o, cap, by rw [hlen], Nat.zero_le _, hg, by rw [hlen]; exact hl, fun k hk => ?_⟩
      rw [hlen] at hk
      obtain ⟨g', o', hq, _, hcc⟩ := hc k hk
      simp only [Option.some.injEq, Addr.mk.injEq, and_true] at hq
      obtain ⟨rfl, rfl⟩ := hq
      have hget : ((List.range len).map fun k => (⟨G k 0, G k 1, G k 2⟩ : Ver)).getD k Ver.zero = ⟨G k 0, G k 1, G k 2⟩ := by simp [List.getD_eq_getElem?_getD, hk]
      rw [hget]
      exact ⟨hcc 0 (by omega), hcc 1 (by omega), hcc 2 (by omega)⟩
  · obtain ⟨k, _, rfl⟩ := List.mem_map.1 hx
    exact ⟨hG k 0, hG k 1, hG k 2⟩
set_option maxRecDepth 100000 in
theorem open_ver {r : Reach} {b0 : Nat} {v : Value} {d : DataW H} {p : List MemPlace} {base : Nat} {spare : Nat → Bool} {held : Bool} (hv : Value.okWide Tryz.prog w r b0 83 v) (h : DataW.Trod enc Tryz.prog w base spare held 83 v d p) : ∃ x : Ver, Ver.ok x ∧ v = .agg #[.int .i64 x.t, .int .i64 x.k, .int .i64 x.n] := by
  obtain ⟨G, hG, hv'⟩ := open_flat1 Tryz.underlying83 ver_flat hv h
  rw [ver_cells] at hv'
  exact ⟨⟨G 0, G 1, G 2⟩, ⟨hG 0, hG 1, hG 2⟩, hv'⟩
end
end Go.Proofs.YtcmafmdcgkpagaaGreat.F
namespace Go.Proofs.YtcmafmdcgkpagaaGreat.F
open Go.ChangeShapes Go.WideShapes Go.ChangeAt Go.RowKit Base
/-- Are two alike? -/
def Ver.beq (x y : Ver) : Bool := decide (x.t = y.t) && decide (x.k = y.k) && decide (x.n = y.n)
theorem Ver.beq_iff (x y : Ver) : Ver.beq x y = true ↔ x = y := by
  unfold Ver.beq
  constructor
  · intro h
    simp only [Bool.and_eq_true, decide_eq_true_eq] at h
    cases x; cases y
    simp_all
  · intro h
    subst h
    simp
theorem Ver.beq_self (x : Ver) : Ver.beq x x = true := (Ver.beq_iff x x).2 rfl
set_option maxHeartbeats 4000000 in
theorem eq_ver (x y : Ver) (w : World) : (binOp .eql 83 (.agg #[.int .i64 x.t, .int .i64 x.k, .int .i64 x.n]) (.agg #[.int .i64 y.t, .int .i64 y.k, .int .i64 y.n])).run Tryz.prog w = .ok (.bool (Ver.beq x y)) w := by
  have u3 := Tryz.underlying3
  have a3 := Tryz.isAgg3
  have z3 := Tryz.sizeOf3
  have hS : Tryz.prog.underlying 83 = some (.struct (Tryz.prog.fieldsOf 83)) := by kernel_rfl
  have hp : Tryz.prog.stoodInHeld 83 = false := by kernel_rfl
  rw [run_eql_struct, show (10000 : Nat) = 9999 + 1 from rfl, run_equalIn_agg w 9999 83 _ _ hS hp]
  simp only [Program.fieldsOf, Tryz.underlying83]
  go_simp
  obtain ⟨x0, x1, x2⟩ := x
  obtain ⟨y0, y1, y2⟩ := y
  unfold Ver.beq
  by_cases h0 : x0 = y0 <;> by_cases h1 : x1 = y1 <;> by_cases h2 : x2 = y2 <;> simp [h0, h1, h2]
set_option maxHeartbeats 4000000 in
theorem ne_ver (x y : Ver) (w : World) : (binOp .neq 83 (.agg #[.int .i64 x.t, .int .i64 x.k, .int .i64 x.n]) (.agg #[.int .i64 y.t, .int .i64 y.k, .int .i64 y.n])).run Tryz.prog w = .ok (.bool (!Ver.beq x y)) w := by
  have u3 := Tryz.underlying3
  have a3 := Tryz.isAgg3
  have z3 := Tryz.sizeOf3
  have hS : Tryz.prog.underlying 83 = some (.struct (Tryz.prog.fieldsOf 83)) := by kernel_rfl
  have hp : Tryz.prog.stoodInHeld 83 = false := by kernel_rfl
  rw [run_neq_struct, show (10000 : Nat) = 9999 + 1 from rfl, run_equalIn_agg w 9999 83 _ _ hS hp]
  simp only [Program.fieldsOf, Tryz.underlying83]
  go_simp
  obtain ⟨x0, x1, x2⟩ := x
  obtain ⟨y0, y1, y2⟩ := y
  unfold Ver.beq
  by_cases h0 : x0 = y0 <;> by_cases h1 : x1 = y1 <;> by_cases h2 : x2 = y2 <;> simp [h0, h1, h2]
end Go.Proofs.YtcmafmdcgkpagaaGreat.F
namespace Go.Proofs.YtcmafmdcgkpagaaGreat.F
open Go.ChangeShapes Go.WideShapes Go.ChangeAt Go.RowKit Base
/-- Are two alike? -/
def Opr.beq (x y : Opr) : Bool := decide (x.rd = y.rd) && decide (x.k = y.k) && decide (x.t = y.t) && decide (x.n = y.n)
theorem Opr.beq_iff (x y : Opr) : Opr.beq x y = true ↔ x = y := by
  unfold Opr.beq
  constructor
  · intro h
    simp only [Bool.and_eq_true, decide_eq_true_eq] at h
    cases x; cases y
    simp_all
  · intro h
    subst h
    simp
theorem Opr.beq_self (x : Opr) : Opr.beq x x = true := (Opr.beq_iff x x).2 rfl
set_option maxHeartbeats 4000000 in
theorem eq_opr (x y : Opr) (w : World) : (binOp .eql 57 (.agg #[.bool x.rd, .int .i64 x.k, .int .i64 x.t, .int .i64 x.n]) (.agg #[.bool y.rd, .int .i64 y.k, .int .i64 y.t, .int .i64 y.n])).run Tryz.prog w = .ok (.bool (Opr.beq x y)) w := by
  have u3 := Tryz.underlying3
  have a3 := Tryz.isAgg3
  have z3 := Tryz.sizeOf3
  have u4 := Tryz.underlying4
  have a4 := Tryz.isAgg4
  have z4 := Tryz.sizeOf4
  have hS : Tryz.prog.underlying 57 = some (.struct (Tryz.prog.fieldsOf 57)) := by kernel_rfl
  have hp : Tryz.prog.stoodInHeld 57 = false := by kernel_rfl
  rw [run_eql_struct, show (10000 : Nat) = 9999 + 1 from rfl, run_equalIn_agg w 9999 57 _ _ hS hp]
  simp only [Program.fieldsOf, Tryz.underlying57]
  go_simp
  obtain ⟨x0, x1, x2, x3⟩ := x
  obtain ⟨y0, y1, y2, y3⟩ := y
  unfold Opr.beq
  by_cases h0 : x0 = y0 <;> by_cases h1 : x1 = y1 <;> by_cases h2 : x2 = y2 <;> by_cases h3 : x3 = y3 <;> simp [h0, h1, h2, h3]
set_option maxHeartbeats 4000000 in
theorem ne_opr (x y : Opr) (w : World) : (binOp .neq 57 (.agg #[.bool x.rd, .int .i64 x.k, .int .i64 x.t, .int .i64 x.n]) (.agg #[.bool y.rd, .int .i64 y.k, .int .i64 y.t, .int .i64 y.n])).run Tryz.prog w = .ok (.bool (!Opr.beq x y)) w := by
  have u3 := Tryz.underlying3
  have a3 := Tryz.isAgg3
  have z3 := Tryz.sizeOf3
  have u4 := Tryz.underlying4
  have a4 := Tryz.isAgg4
  have z4 := Tryz.sizeOf4
  have hS : Tryz.prog.underlying 57 = some (.struct (Tryz.prog.fieldsOf 57)) := by kernel_rfl
  have hp : Tryz.prog.stoodInHeld 57 = false := by kernel_rfl
  rw [run_neq_struct, show (10000 : Nat) = 9999 + 1 from rfl, run_equalIn_agg w 9999 57 _ _ hS hp]
  simp only [Program.fieldsOf, Tryz.underlying57]
  go_simp
  obtain ⟨x0, x1, x2, x3⟩ := x
  obtain ⟨y0, y1, y2, y3⟩ := y
  unfold Opr.beq
  by_cases h0 : x0 = y0 <;> by_cases h1 : x1 = y1 <;> by_cases h2 : x2 = y2 <;> by_cases h3 : x3 = y3 <;> simp [h0, h1, h2, h3]
end Go.Proofs.YtcmafmdcgkpagaaGreat.F
namespace Go.Proofs.YtcmafmdcgkpagaaGreat.Op
open Go.ChangeShapes Go.WideShapes Go.ChangeAt Go.RowKit Base F Go.Lib
/-- Are two lists one? -/
def sameO : List Opr → List Opr → Bool
  | [], [] => true
  | x :: xs, y :: ys => Opr.beq x y && sameO xs ys
  | _, _ => false
theorem sameO_iff : ∀ (xs ys : List Opr), sameO xs ys = true ↔ xs = ys
  | [], [] => by simp [sameO]
  | [], y :: ys => by simp [sameO]
  | x :: xs, [] => by simp [sameO]
  | x :: xs, y :: ys => by
    simp only [sameO, Bool.and_eq_true, Opr.beq_iff, sameO_iff xs ys, List.cons.injEq]
theorem sameO_len {xs ys : List Opr} (h : xs.length ≠ ys.length) : sameO xs ys = false := by
  rw [Bool.eq_false_iff]
  intro e
  exact h (by rw [(sameO_iff xs ys).1 e])
theorem sameO_at {xs ys : List Opr} {k : Nat} (h : Opr.beq (xs.getD k Opr.zero) (ys.getD k Opr.zero) = false) : sameO xs ys = false := by
  rw [Bool.eq_false_iff]
  intro e
  rw [(sameO_iff xs ys).1 e, Opr.beq_self] at h
  cases h
theorem sameO_all {xs ys : List Opr} (hl : xs.length = ys.length) (h : ∀ k, k < xs.length → Opr.beq (xs.getD k Opr.zero) (ys.getD k Opr.zero) = true) : sameO xs ys = true := by
  rw [sameO_iff]
  apply List.ext_getElem hl
  intro k h1 h2
  have := (Opr.beq_iff _ _).1 (h k h1)
  rw [List.getD_eq_getElem?_getD, List.getD_eq_getElem?_getD, List.getElem?_eq_getElem h1, List.getElem?_eq_getElem h2] at this
  exact this
end Go.Proofs.YtcmafmdcgkpagaaGreat.Op
namespace Go.Proofs.YtcmafmdcgkpagaaGreat.F
open Go.ChangeShapes Go.WideShapes Go.ChangeAt Go.RowKit Base
/-- A value of the struct. -/
structure Bad where
  tx : Int
  pl : Int
  t : Int
  k : Int
  n : Int
def Bad.zero : Bad := ⟨0, 0, 0, 0, 0⟩
/-- Its cells. -/
def Bad.vals (x : Bad) : List Value := [.int .i64 x.tx, .int .i64 x.pl, .int .i64 x.t, .int .i64 x.k, .int .i64 x.n]
/-- Its fields are ints of 64 bits. -/
def Bad.ok (x : Bad) : Prop := (-9223372036854775808 ≤ x.tx ∧ x.tx ≤ 9223372036854775807) ∧ (-9223372036854775808 ≤ x.pl ∧ x.pl ≤ 9223372036854775807) ∧ (-9223372036854775808 ≤ x.t ∧ x.t ≤ 9223372036854775807) ∧ (-9223372036854775808 ≤ x.k ∧ x.k ≤ 9223372036854775807) ∧ (-9223372036854775808 ≤ x.n ∧ x.n ≤ 9223372036854775807)
/-- The slice v, whose elements lie from block base on, holds xs. -/
def Bads (base : Nat) (w : World) (v : Value) (xs : List Bad) : Prop :=
  ((∃ p c, v = .slice p 0 c ∧ (p = none → c = 0)) ∧ xs = []) ∨ ∃ g o c, v = .slice (some ⟨g, o, none⟩) xs.length c ∧ base ≤ g ∧ g < w.heap.size ∧ xs.length ≤ 9223372036854775807 ∧ ∀ k, k < xs.length →
    w.cell? ⟨g, o + k * 5, none⟩ = some (.int .i64 (xs.getD k Bad.zero).tx) ∧ w.cell? ⟨g, o + k * 5 + 1, none⟩ = some (.int .i64 (xs.getD k Bad.zero).pl) ∧ w.cell? ⟨g, o + k * 5 + 2, none⟩ = some (.int .i64 (xs.getD k Bad.zero).t) ∧ w.cell? ⟨g, o + k * 5 + 3, none⟩ = some (.int .i64 (xs.getD k Bad.zero).k) ∧ w.cell? ⟨g, o + k * 5 + 4, none⟩ = some (.int .i64 (xs.getD k Bad.zero).n)
theorem Bads.kept {base base' : Nat} {w w1 : World} {v : Value} {xs : List Bad} (h : Bads base w v xs) (hb : ∀ g, base ≤ g → g < w.heap.size → w1.heap[g]? = w.heap[g]? ∧ base' ≤ g) (hs : w.heap.size ≤ w1.heap.size) : Bads base' w1 v xs := by
  rcases h with h | ⟨g, o, c, hv, h0, h1, h2, h3⟩
  · exact .inl h
  · refine .inr ⟨g, o, c, hv, (hb g h0 h1).2, Nat.lt_of_lt_of_le h1 hs, h2, fun k hk => ?_⟩
    have key : ∀ j, w1.cell? ⟨g, j, none⟩ = w.cell? ⟨g, j, none⟩ := fun j => World.cell?_of_block (a := ⟨g, j, none⟩) (hb g h0 h1).1
    simp only [key]
    exact h3 k hk
theorem Bads.below {base : Nat} {w w1 : World} {v : Value} {xs : List Bad} (h : Bads base w v xs) (hb : Below w.heap.size w w1) : Bads base w1 v xs :=
  h.kept (fun g h0 h1 => ⟨hb.block g h1, h0⟩) hb.size
theorem Bads.grown {base : Nat} {w w1 : World} {v : Value} {xs : List Bad} {x : Option Nat} (h : Bads base w v xs) (hg : w.grownBy w1 x) (hx : ∀ b, x = some b → b < base) : Bads base w1 v xs :=
  h.kept (fun g h0 h1 => ⟨hg.block g h1 (fun e => by have := hx g e.symm; omega), h0⟩) hg.size
theorem Bads.mono {base base' : Nat} {w : World} {v : Value} {xs : List Bad} (h : Bads base w v xs) (hb : base' ≤ base) : Bads base' w v xs :=
  h.kept (fun _ h0 _ => ⟨rfl, Nat.le_trans hb h0⟩) (Nat.le_refl _)
theorem Bads.open_ {base : Nat} {w : World} {v : Value} {xs : List Bad} (h : Bads base w v xs) : ∃ p c, v = .slice p xs.length c ∧ xs.length ≤ 9223372036854775807 ∧ ∀ k, k < xs.length → ∃ g o, p = some ⟨g, o, none⟩ ∧ base ≤ g ∧ g < w.heap.size ∧
    w.cell? ⟨g, o + k * 5, none⟩ = some (.int .i64 (xs.getD k Bad.zero).tx) ∧ w.cell? ⟨g, o + k * 5 + 1, none⟩ = some (.int .i64 (xs.getD k Bad.zero).pl) ∧ w.cell? ⟨g, o + k * 5 + 2, none⟩ = some (.int .i64 (xs.getD k Bad.zero).t) ∧ w.cell? ⟨g, o + k * 5 + 3, none⟩ = some (.int .i64 (xs.getD k Bad.zero).k) ∧ w.cell? ⟨g, o + k * 5 + 4, none⟩ = some (.int .i64 (xs.getD k Bad.zero).n) := by
  rcases h with ⟨⟨p, c, hv⟩, rfl⟩ | ⟨g, o, c, hv, h0, h1, h2, h3⟩
  · exact ⟨p, c, hv.1, by simp, fun k hk => absurd hk (by simp)⟩
  · exact ⟨_, c, hv, h2, fun k hk => ⟨g, o, rfl, h0, h1, h3 k hk⟩⟩
theorem Bads.nil {base : Nat} {w : World} : Bads base w (.slice none 0 0) [] := .inl ⟨⟨_, _, rfl, fun _ => rfl⟩, rfl⟩
theorem bad_flat_len (zs : List Bad) : (zs.flatMap Bad.vals).length = zs.length * 5 := by
  induction zs with
  | nil => rfl
  | cons x zs ih => rw [List.flatMap_cons, List.length_append, ih]; simp [Bad.vals]; omega
theorem bad_flat_get : ∀ (zs : List Bad) (k j : Nat), k < zs.length → j < 5 → (zs.flatMap Bad.vals)[k * 5 + j]? = (Bad.vals (zs.getD k Bad.zero))[j]?
  | x :: zs, 0, j, _, hj => by
    rw [List.flatMap_cons, List.getElem?_append_left (by simp [Bad.vals]; omega)]
    simp
  | x :: zs, k + 1, j, hk, hj => by
    rw [List.flatMap_cons, List.getElem?_append_right (by simp [Bad.vals]; omega), show (k + 1) * 5 + j - (Bad.vals x).length = k * 5 + j by simp [Bad.vals]; omega, bad_flat_get zs k j (by simpa using hk) hj]
    rfl
theorem bad_flat_take (zs : List Bad) (m : Nat) : (zs.flatMap Bad.vals).take (m * 5) = (zs.take m).flatMap Bad.vals := by
  induction zs generalizing m with
  | nil => simp
  | cons x zs ih =>
    cases m with
    | zero => simp
    | succ m =>
      rw [List.flatMap_cons, List.take_succ_cons, List.flatMap_cons, ← ih m, List.take_append, List.take_of_length_le (by simp [Bad.vals]; omega)]
      congr 2
      simp [Bad.vals]; omega
theorem bad_vals_one (zs : List Bad) : ∀ u ∈ zs.flatMap Bad.vals, u.oneCell' = true := by
  intro u hu
  obtain ⟨x, _, hx⟩ := List.mem_flatMap.1 hu
  simp only [Bad.vals, List.mem_cons, List.not_mem_nil, or_false] at hx
  rcases hx with rfl | rfl | rfl | rfl | rfl <;> rfl
section
variable {H : Type} {enc : TypeId × Value → H} {w : World}
end
end Go.Proofs.YtcmafmdcgkpagaaGreat.F
namespace Go.Proofs.YtcmafmdcgkpagaaGreat.F
open Go.ChangeShapes Go.WideShapes Go.ChangeAt Go.RowKit Base
/-- Are two alike? -/
def Bad.beq (x y : Bad) : Bool := decide (x.tx = y.tx) && decide (x.pl = y.pl) && decide (x.t = y.t) && decide (x.k = y.k) && decide (x.n = y.n)
theorem Bad.beq_iff (x y : Bad) : Bad.beq x y = true ↔ x = y := by
  unfold Bad.beq
  constructor
  · intro h
    simp only [Bool.and_eq_true, decide_eq_true_eq] at h
    cases x; cases y
    simp_all
  · intro h
    subst h
    simp
theorem Bad.beq_self (x : Bad) : Bad.beq x x = true := (Bad.beq_iff x x).2 rfl
end Go.Proofs.YtcmafmdcgkpagaaGreat.F
namespace Go.Proofs.YtcmafmdcgkpagaaGreat.F
open Go.ChangeShapes Go.WideShapes Go.ChangeAt Go.RowKit Base
/-- A value of the struct. -/
structure Hvy where
  f : Int
  t : Int
  kd : Int
  k : Int
  n : Int
def Hvy.zero : Hvy := ⟨0, 0, 0, 0, 0⟩
/-- Its cells. -/
def Hvy.vals (x : Hvy) : List Value := [.int .i64 x.f, .int .i64 x.t, .int .i64 x.kd, .int .i64 x.k, .int .i64 x.n]
/-- Its fields are ints of 64 bits. -/
def Hvy.ok (x : Hvy) : Prop := (-9223372036854775808 ≤ x.f ∧ x.f ≤ 9223372036854775807) ∧ (-9223372036854775808 ≤ x.t ∧ x.t ≤ 9223372036854775807) ∧ (-9223372036854775808 ≤ x.kd ∧ x.kd ≤ 9223372036854775807) ∧ (-9223372036854775808 ≤ x.k ∧ x.k ≤ 9223372036854775807) ∧ (-9223372036854775808 ≤ x.n ∧ x.n ≤ 9223372036854775807)
/-- The slice v, whose elements lie from block base on, holds xs. -/
def Hvys (base : Nat) (w : World) (v : Value) (xs : List Hvy) : Prop :=
  ((∃ p c, v = .slice p 0 c ∧ (p = none → c = 0)) ∧ xs = []) ∨ ∃ g o c, v = .slice (some ⟨g, o, none⟩) xs.length c ∧ base ≤ g ∧ g < w.heap.size ∧ xs.length ≤ 9223372036854775807 ∧ ∀ k, k < xs.length →
    w.cell? ⟨g, o + k * 5, none⟩ = some (.int .i64 (xs.getD k Hvy.zero).f) ∧ w.cell? ⟨g, o + k * 5 + 1, none⟩ = some (.int .i64 (xs.getD k Hvy.zero).t) ∧ w.cell? ⟨g, o + k * 5 + 2, none⟩ = some (.int .i64 (xs.getD k Hvy.zero).kd) ∧ w.cell? ⟨g, o + k * 5 + 3, none⟩ = some (.int .i64 (xs.getD k Hvy.zero).k) ∧ w.cell? ⟨g, o + k * 5 + 4, none⟩ = some (.int .i64 (xs.getD k Hvy.zero).n)
theorem Hvys.kept {base base' : Nat} {w w1 : World} {v : Value} {xs : List Hvy} (h : Hvys base w v xs) (hb : ∀ g, base ≤ g → g < w.heap.size → w1.heap[g]? = w.heap[g]? ∧ base' ≤ g) (hs : w.heap.size ≤ w1.heap.size) : Hvys base' w1 v xs := by
  rcases h with h | ⟨g, o, c, hv, h0, h1, h2, h3⟩
  · exact .inl h
  · refine .inr ⟨g, o, c, hv, (hb g h0 h1).2, Nat.lt_of_lt_of_le h1 hs, h2, fun k hk => ?_⟩
    have key : ∀ j, w1.cell? ⟨g, j, none⟩ = w.cell? ⟨g, j, none⟩ := fun j => World.cell?_of_block (a := ⟨g, j, none⟩) (hb g h0 h1).1
    simp only [key]
    exact h3 k hk
theorem Hvys.below {base : Nat} {w w1 : World} {v : Value} {xs : List Hvy} (h : Hvys base w v xs) (hb : Below w.heap.size w w1) : Hvys base w1 v xs :=
  h.kept (fun g h0 h1 => ⟨hb.block g h1, h0⟩) hb.size
theorem Hvys.grown {base : Nat} {w w1 : World} {v : Value} {xs : List Hvy} {x : Option Nat} (h : Hvys base w v xs) (hg : w.grownBy w1 x) (hx : ∀ b, x = some b → b < base) : Hvys base w1 v xs :=
  h.kept (fun g h0 h1 => ⟨hg.block g h1 (fun e => by have := hx g e.symm; omega), h0⟩) hg.size
theorem Hvys.mono {base base' : Nat} {w : World} {v : Value} {xs : List Hvy} (h : Hvys base w v xs) (hb : base' ≤ base) : Hvys base' w v xs :=
  h.kept (fun _ h0 _ => ⟨rfl, Nat.le_trans hb h0⟩) (Nat.le_refl _)
theorem Hvys.open_ {base : Nat} {w : World} {v : Value} {xs : List Hvy} (h : Hvys base w v xs) : ∃ p c, v = .slice p xs.length c ∧ xs.length ≤ 9223372036854775807 ∧ ∀ k, k < xs.length → ∃ g o, p = some ⟨g, o, none⟩ ∧ base ≤ g ∧ g < w.heap.size ∧
    w.cell? ⟨g, o + k * 5, none⟩ = some (.int .i64 (xs.getD k Hvy.zero).f) ∧ w.cell? ⟨g, o + k * 5 + 1, none⟩ = some (.int .i64 (xs.getD k Hvy.zero).t) ∧ w.cell? ⟨g, o + k * 5 + 2, none⟩ = some (.int .i64 (xs.getD k Hvy.zero).kd) ∧ w.cell? ⟨g, o + k * 5 + 3, none⟩ = some (.int .i64 (xs.getD k Hvy.zero).k) ∧ w.cell? ⟨g, o + k * 5 + 4, none⟩ = some (.int .i64 (xs.getD k Hvy.zero).n) := by
  rcases h with ⟨⟨p, c, hv⟩, rfl⟩ | ⟨g, o, c, hv, h0, h1, h2, h3⟩
  · exact ⟨p, c, hv.1, by simp, fun k hk => absurd hk (by simp)⟩
  · exact ⟨_, c, hv, h2, fun k hk => ⟨g, o, rfl, h0, h1, h3 k hk⟩⟩
theorem Hvys.nil {base : Nat} {w : World} : Hvys base w (.slice none 0 0) [] := .inl ⟨⟨_, _, rfl, fun _ => rfl⟩, rfl⟩
theorem hvy_flat_len (zs : List Hvy) : (zs.flatMap Hvy.vals).length = zs.length * 5 := by
  induction zs with
  | nil => rfl
  | cons x zs ih => rw [List.flatMap_cons, List.length_append, ih]; simp [Hvy.vals]; omega
theorem hvy_flat_get : ∀ (zs : List Hvy) (k j : Nat), k < zs.length → j < 5 → (zs.flatMap Hvy.vals)[k * 5 + j]? = (Hvy.vals (zs.getD k Hvy.zero))[j]?
  | x :: zs, 0, j, _, hj => by
    rw [List.flatMap_cons, List.getElem?_append_left (by simp [Hvy.vals]; omega)]
    simp
  | x :: zs, k + 1, j, hk, hj => by
    rw [List.flatMap_cons, List.getElem?_append_right (by simp [Hvy.vals]; omega), show (k + 1) * 5 + j - (Hvy.vals x).length = k * 5 + j by simp [Hvy.vals]; omega, hvy_flat_get zs k j (by simpa using hk) hj]
    rfl
theorem hvy_flat_take (zs : List Hvy) (m : Nat) : (zs.flatMap Hvy.vals).take (m * 5) = (zs.take m).flatMap Hvy.vals := by
  induction zs generalizing m with
  | nil => simp
  | cons x zs ih =>
    cases m with
    | zero => simp
    | succ m =>
      rw [List.flatMap_cons, List.take_succ_cons, List.flatMap_cons, ← ih m, List.take_append, List.take_of_length_le (by simp [Hvy.vals]; omega)]
      congr 2
      simp [Hvy.vals]; omega
theorem hvy_vals_one (zs : List Hvy) : ∀ u ∈ zs.flatMap Hvy.vals, u.oneCell' = true := by
  intro u hu
  obtain ⟨x, _, hx⟩ := List.mem_flatMap.1 hu
  simp only [Hvy.vals, List.mem_cons, List.not_mem_nil, or_false] at hx
  rcases hx with rfl | rfl | rfl | rfl | rfl <;> rfl
/-- The slice v, which the call made itself from block B on, holds zs. -/
def OwnHvy (B : Nat) (w : World) (v : Value) (zs : List Hvy) : Prop := w.ownsRow B 48 5 v zs.length (zs.flatMap Hvy.vals)
theorem OwnHvy.nil (B : Nat) (w : World) : OwnHvy B w (.slice none 0 0) [] := World.ownsRow_nil _ _ _ _
theorem OwnHvy.list {B : Nat} {w : World} {v : Value} {zs : List Hvy} (h : OwnHvy B w v zs) (hl : zs.length ≤ 9223372036854775807) : Hvys B w v zs := by
  have h' := h
  rcases h.2 with ⟨hv, h0⟩ | ⟨g, cap, cur, hv, hB, h2, _⟩
  · exact .inl ⟨⟨_, _, hv, fun _ => rfl⟩, List.length_eq_zero_iff.1 h0⟩
  · subst hv
    have hc : ∀ k j, k < zs.length → j < 5 → w.cell? ⟨g, 0 + k * 5 + j, none⟩ = (Hvy.vals (zs.getD k Hvy.zero))[j]? := fun k j hk hj => by
      rw [Nat.zero_add, ← hvy_flat_get zs k j hk hj]
      exact World.ownsRow.cellAt h' (k * 5 + j) (by omega)
    exact .inr ⟨g, 0, cap, rfl, hB, heap_lt h2, hl, fun k hk => ⟨hc k 0 hk (by omega), hc k 1 hk (by omega), hc k 2 hk (by omega), hc k 3 hk (by omega), hc k 4 hk (by omega)⟩⟩
theorem OwnHvy.kept {B : Nat} {w w1 : World} {v : Value} {zs : List Hvy} (h : OwnHvy B w v zs) {row : Option Nat} (hg : w.grownBy w1 row) (hne : v.ownBlock = none ∨ v.ownBlock ≠ row) : OwnHvy B w1 v zs := World.ownsRow.kept h hg hne
theorem OwnHvy.below {B : Nat} {w w1 : World} {v : Value} {zs : List Hvy} (h : OwnHvy B w v zs) (hb : Below w.heap.size w w1) : OwnHvy B w1 v zs :=
  World.ownsRow.kept h (row := none) ⟨hb.os, hb.tape, hb.output, hb.size, fun k hk _ => hb.block k hk⟩ (by cases v.ownBlock <;> simp)
theorem OwnHvy.base {B : Nat} {w : World} {v : Value} {zs : List Hvy} (h : OwnHvy B w v zs) : ∀ k, v.ownBlock = some k → B ≤ k ∧ k < w.heap.size := World.ownsRow.lt h
/-- The first m of it, in the same place. -/
theorem OwnHvy.cut {B : Nat} {w : World} {p : Option Addr} {n c : Nat} {zs : List Hvy} (h : OwnHvy B w (.slice p n c) zs) {m : Nat} (hm : m ≤ zs.length) : OwnHvy B w (.slice p m c) (zs.take m) := by
  obtain ⟨hl, h⟩ := h
  have hlen : (zs.take m).length = m := by rw [List.length_take]; omega
  refine ⟨by rw [hvy_flat_len], ?_⟩
  rw [hlen]
  rcases h with ⟨hv, h0⟩ | ⟨g, cap, cur, hv, h1, h2, h3, h4, h5, h6⟩
  · injection hv with e1 e2 e3
    subst e1 e3
    obtain rfl : m = 0 := by omega
    exact .inl ⟨rfl, rfl⟩
  · injection hv with e1 e2 e3
    subst e1 e3
    refine .inr ⟨g, c, cur, rfl, h1, h2, by omega, h4, h5, ?_⟩
    rw [← hvy_flat_take, ← h6, List.take_take]
    congr 1
    have := Nat.mul_le_mul_right 5 hm
    omega
theorem hvy_info : (Tryz.prog.info? 48).map (fun i => (i.zero, i.size, i.bytes)) = some (some (.agg #[.int .i64 0, .int .i64 0, .int .i64 0, .int .i64 0, .int .i64 0]), 5, 40) := by kernel_rfl
theorem run_append_hvys {B base : Nat} {w : World} {v u : Value} {zs ys : List Hvy} (ty : TypeId)
    (hB : B ≤ w.heap.size) (hown : OwnHvy B w v zs) (hys : Hvys base w u ys) (hl : zs.length + ys.length ≤ 1000000) :
    ∃ v' w', (Builtin.append_ #[30, 30] ty #[v, u]).run Tryz.prog w = .ok v' w' ∧ OwnHvy B w' v' (zs ++ ys) ∧ w.grownBy w' v.ownBlock ∧ (v'.ownBlock = v.ownBlock ∨ v'.ownBlock = some w.heap.size) := by
  obtain ⟨i0, hi, hz0, hz1, hz2⟩ := info_parts hvy_info
  rcases hys with ⟨⟨p, c, rfl, hpc⟩, rfl⟩ | ⟨g, o', c, rfl, _, _, _, hc⟩
  · cases p with
    | none =>
      obtain rfl := hpc rfl
      exact ⟨v, w, run_append_owned_none (P := Tryz.prog) (w := w) B 30 ty 48 i0 5 Tryz.underlying30 hi v zs.length (zs.flatMap Hvy.vals) hown, by rw [List.append_nil]; exact hown, World.grownBy.refl _ _, .inl rfl⟩
    | some ad =>
      obtain ⟨v', w', hr, h2, h3, _, h5⟩ := run_append_own_at (P := Tryz.prog) w B 30 ty 48 i0 (.agg #[.int .i64 0, .int .i64 0, .int .i64 0, .int .i64 0, .int .i64 0]) 5 40 Tryz.underlying30 hi hz0 hz1 hz2 rfl (by decide) v zs.length (zs.flatMap Hvy.vals) hown ad 0 c [] (by simp) (by simp) (by simp) (by simp only [maxLen]; omega) (by omega) hB
      refine ⟨v', w', hr, ?_, h3, h5⟩
      rw [List.append_nil]
      unfold OwnHvy
      simpa using h2
  · obtain ⟨v', w', hr, h2, h3, _, h5⟩ := run_append_own_at (P := Tryz.prog) w B 30 ty 48 i0 (.agg #[.int .i64 0, .int .i64 0, .int .i64 0, .int .i64 0, .int .i64 0]) 5 40 Tryz.underlying30 hi hz0 hz1 hz2 rfl (by decide) v zs.length (zs.flatMap Hvy.vals) hown ⟨g, o', none⟩ ys.length c (ys.flatMap Hvy.vals) (hvy_flat_len ys) (by
      intro t y hy
      have ht : t < ys.length * 5 := by rw [← hvy_flat_len ys]; exact (List.getElem?_eq_some_iff.1 hy).1
      have hk : t / 5 < ys.length := by omega
      have hr : t % 5 < 5 := Nat.mod_lt _ (by decide)
      have e : t = t / 5 * 5 + t % 5 := by omega
      have hcc := hc (t / 5) hk
      rw [e, hvy_flat_get ys _ _ hk hr] at hy
      rw [add_plain, e]
      generalize t / 5 = k at hcc hy
      generalize t % 5 = j at hr hy
      obtain ⟨c0, c1, c2, c3, c4⟩ := hcc
      match j, hr, hy with
      | 0, _, hy => simp [Hvy.vals] at hy; subst hy; simpa [Nat.add_assoc] using c0
      | 1, _, hy => simp [Hvy.vals] at hy; subst hy; simpa [Nat.add_assoc] using c1
      | 2, _, hy => simp [Hvy.vals] at hy; subst hy; simpa [Nat.add_assoc] using c2
      | 3, _, hy => simp [Hvy.vals] at hy; subst hy; simpa [Nat.add_assoc] using c3
      | 4, _, hy => simp [Hvy.vals] at hy; subst hy; simpa [Nat.add_assoc] using c4) (hvy_vals_one ys) (by simp only [maxLen]; omega) (by omega) hB
    refine ⟨v', w', hr, ?_, h3, h5⟩
    unfold OwnHvy
    rw [List.length_append, List.flatMap_append]
    exact h2
/-- Some are put behind a slice of the call's own. -/
theorem append_hvys {ops : Array Oper} {rest : List Oper} {o : Oper} {a : Act} {Q : Exit → Act → World → Prop} (hgd : o.guard = none) (s x : Operand)
    (ho : o.op = .call { callee := .builtin .append, args := #[s, x], argTypes := #[30, 30] }) {B base : Nat} {w : World} {v u : Value} {zs ys : List Hvy}
    (hB : B ≤ w.heap.size) (hown : OwnHvy B w v zs) (hs : a.eval s = v) (hys : Hvys base w u ys) (hx : a.eval x = u) (hl : zs.length + ys.length ≤ 1000000)
    (h : ∀ v' w', OwnHvy B w' v' (zs ++ ys) → w.grownBy w' v.ownBlock → (v'.ownBlock = v.ownBlock ∨ v'.ownBlock = some w.heap.size) → wpList Tryz.prog ops Q rest (a.put o.dst v') w') :
    wpList Tryz.prog ops Q (o :: rest) a w := by
  refine wpList_plain hgd fun K hK => ?_
  obtain ⟨v', w', hr, h2, h3, h5⟩ := run_append_hvys o.type hB hown hys hl
  unfold Oper.wp execOp
  simp only [ho, resolve, invoke, builtin, Sem.run_bind, Sem.run_pure, Result.andThen_ok, List.map_toArray, List.map_cons, List.map_nil, hs, hx, hr]
  exact hK _ _ (h v' w' h2 h3 h5)
/-- The same, as one step of a region that draws its order. -/
theorem step_append_hvys {ops : Array Oper} {o : Oper} {a : Act} {w : World} {K : Act → World → Prop} {Q : Exit → Act → World → Prop} {E : Prop} (hgd : o.guard = none) (s x : Operand)
    (ho : o.op = .call { callee := .builtin .append, args := #[s, x], argTypes := #[30, 30] }) {B base : Nat} {v u : Value} {zs ys : List Hvy}
    (hB : B ≤ w.heap.size) (hown : OwnHvy B w v zs) (hs : a.eval s = v) (hys : Hvys base w u ys) (hx : a.eval x = u) (hl : zs.length + ys.length ≤ 1000000)
    (hK : ∀ v' w', OwnHvy B w' v' (zs ++ ys) → w.grownBy w' v.ownBlock → (v'.ownBlock = v.ownBlock ∨ v'.ownBlock = some w.heap.size) → K (a.put o.dst v') w') :
    if Region.wanted o (yielded ops a.tmps) = true then Oper.wp Tryz.prog o a w K Q else E := by
  rw [if_pos (by simp [Region.wanted, hgd])]
  obtain ⟨v', w', hr, h2, h3, h5⟩ := run_append_hvys o.type hB hown hys hl
  unfold Oper.wp
  simp [execOp, ho, resolve, invoke, builtin, hs, hx, hr, Result.andThen]
  exact hK v' w' h2 h3 h5
theorem OwnHvy.lay {B : Nat} {w X : World} {v : Value} {zs : List Hvy} (h : OwnHvy B w v zs) (hx : X.heap = w.heap) (o : Obj) : OwnHvy B (X.alloc o) v zs := by
  have h1 : OwnHvy B X v zs := by
    unfold OwnHvy World.ownsRow at *
    rw [hx]
    exact h
  exact World.ownsRow.alloc h1 o
theorem ownHvy_empty {B : Nat} {W : World} {g : Nat} (hB : B ≤ g) (h : W.heap[g]? = some (.cells #[] 48)) : OwnHvy B W (.slice (some ⟨g, 0, none⟩) 0 0) [] :=
  ⟨rfl, .inr ⟨g, 0, #[], rfl, hB, h, Nat.le_refl _, by simp [maxLen], rfl, rfl⟩⟩
/-- One that is typed out. -/
theorem hvy_at {X : World} {g : Nat} (c : Hvy) (h : X.heap[g]? = some (.cells #[.int .i64 c.f, .int .i64 c.t, .int .i64 c.kd, .int .i64 c.k, .int .i64 c.n] 48)) : Hvys 0 X (.slice (some ⟨g, 0, none⟩) 1 1) [c] := by
  refine .inr ⟨g, 0, 1, rfl, Nat.zero_le _, heap_lt h, by simp, fun k hk => ?_⟩
  have : k = 0 := by simpa using hk
  subst this
  simp only [World.cell?, h]
  simp
theorem hvy_lit (c : Hvy) (X : World) : Hvys 0 (X.alloc (.cells #[.int .i64 c.f, .int .i64 c.t, .int .i64 c.kd, .int .i64 c.k, .int .i64 c.n] 48)) (.slice (some ⟨X.heap.size, 0, none⟩) 1 1) [c] := hvy_at c (heap_alloc_at _ _ _ rfl)

theorem hvy_flat : flatB Tryz.prog 8 48 = true := by kernel_rfl
theorem hvy_cells : Tryz.prog.cellsOf 48 = 5 := by kernel_rfl
section
variable {H : Type} {enc : TypeId × Value → H} {w : World}
set_option maxRecDepth 100000 in
theorem open_hvys {r : Reach} {b0 : Nat} {v : Value} {d : DataW H} {p : List MemPlace} (hv : Value.okWide Tryz.prog w r b0 30 v) (h : DataW.Trod enc Tryz.prog w 0 (fun _ => true) true 30 v d p) : ∃ xs, (∃ p c, v = .slice p xs.length c ∧ xs.length ≤ c) ∧ Hvys 0 w v xs ∧ ∀ x ∈ xs, Hvy.ok x := by
  obtain ⟨q, len, cap, G, rfl, hqc, hlc, hl, hG, hc⟩ := open_flat Tryz.underlying30 hvy_flat (by rw [hvy_cells]; decide) hv h
  rw [hvy_cells] at hc
  have hlen : ((List.range len).map fun k => (⟨G k 0, G k 1, G k 2, G k 3, G k 4⟩ : Hvy)).length = len := by simp
  refine ⟨(List.range len).map fun k => ⟨G k 0, G k 1, G k 2, G k 3, G k 4⟩, ⟨q, cap, by rw [hlen], by rw [hlen]; exact hlc⟩, ?_, fun x hx => ?_⟩
  · by_cases h0 : len = 0
    · subst h0
      exact .inl ⟨⟨_, _, rfl, hqc⟩, rfl⟩
    · obtain ⟨g, o, hq, hg, _⟩ := hc 0 (by omega)
      subst hq
      refine .inr ⟨g, o, cap, by rw [hlen], Nat.zero_le _, hg, by rw [hlen]; exact hl, fun k hk => ?_⟩
      rw [hlen] at hk
      obtain ⟨g', o', hq, _, hcc⟩ := hc k hk
      simp only [Option.some.injEq, Addr.mk.injEq, and_true] at hq
      obtain ⟨rfl, rfl⟩ := hq
      have hget : ((List.range len).map fun k => (⟨G k 0, G k 1, G k 2, G k 3, G k 4⟩ : Hvy)).getD k Hvy.zero = ⟨G k 0, G k 1, G k 2, G k 3, G k 4⟩ := by simp [List.getD_eq_getElem?_getD, hk]
      rw [hget]
      exact ⟨hcc 0 (by omega), hcc 1 (by omega), hcc 2 (by omega), hcc 3 (by omega), hcc 4 (by omega)⟩
  · obtain ⟨k, _, rfl⟩ := List.mem_map.1 hx
    exact ⟨hG k 0, hG k 1, hG k 2, hG k 3, hG k 4⟩
set_option maxRecDepth 100000 in
theorem open_hvy {r : Reach} {b0 : Nat} {v : Value} {d : DataW H} {p : List MemPlace} {base : Nat} {spare : Nat → Bool} {held : Bool} (hv : Value.okWide Tryz.prog w r b0 48 v) (h : DataW.Trod enc Tryz.prog w base spare held 48 v d p) : ∃ x : Hvy, Hvy.ok x ∧ v = .agg #[.int .i64 x.f, .int .i64 x.t, .int .i64 x.kd, .int .i64 x.k, .int .i64 x.n] := by
  obtain ⟨G, hG, hv'⟩ := open_flat1 Tryz.underlying48 hvy_flat hv h
  rw [hvy_cells] at hv'
  exact ⟨⟨G 0, G 1, G 2, G 3, G 4⟩, ⟨hG 0, hG 1, hG 2, hG 3, hG 4⟩, hv'⟩
end
end Go.Proofs.YtcmafmdcgkpagaaGreat.F
namespace Go.Proofs.YtcmafmdcgkpagaaGreat.Off
open Go.ChangeShapes Go.WideShapes Go.ChangeAt Go.RowKit Base F
theorem own_lit (zs : List Opr) {W : World} {g : Nat} {vs : Array Value} (hv : vs = (zs.flatMap Opr.vals).toArray) (h : W.heap[g]? = some (.cells vs 57)) (hl : zs.length ≤ 65536) (m : Nat) (hm : m = zs.length) : Oprs 0 W (.slice (some ⟨g, 0, none⟩) m m) zs := by
  subst hm hv
  have : OwnOpr 0 W (.slice (some ⟨g, 0, none⟩) zs.length zs.length) zs := ⟨by rw [opr_flat_len], .inr ⟨g, zs.length, (zs.flatMap Opr.vals).toArray, rfl, Nat.zero_le _, h, Nat.le_refl _, by simp only [maxLen]; omega, by rw [List.size_toArray, opr_flat_len], by rw [List.toList_toArray, ← opr_flat_len, List.take_length]⟩⟩
  exact this.list (by omega)
theorem joinG {α β γ : Type} {P : Prop} (J : α → β → γ → Prop) (G : α → β → γ → Prop) (h1 : (∀ x y u, J x y u → G x y u) → P) (h2 : ∀ x y u, J x y u → G x y u) : P := h1 h2
end Go.Proofs.YtcmafmdcgkpagaaGreat.Off
namespace Go.Proofs.YtcmafmdcgkpagaaGreat.F
open Go.ChangeShapes Go.WideShapes Go.ChangeAt Go.RowKit Base
/-- Are two alike? -/
def Hvy.beq (x y : Hvy) : Bool := decide (x.f = y.f) && decide (x.t = y.t) && decide (x.kd = y.kd) && decide (x.k = y.k) && decide (x.n = y.n)
theorem Hvy.beq_iff (x y : Hvy) : Hvy.beq x y = true ↔ x = y := by
  unfold Hvy.beq
  constructor
  · intro h
    simp only [Bool.and_eq_true, decide_eq_true_eq] at h
    cases x; cases y
    simp_all
  · intro h
    subst h
    simp
theorem Hvy.beq_self (x : Hvy) : Hvy.beq x x = true := (Hvy.beq_iff x x).2 rfl
set_option maxHeartbeats 4000000 in
theorem eq_hvy (x y : Hvy) (w : World) : (binOp .eql 48 (.agg #[.int .i64 x.f, .int .i64 x.t, .int .i64 x.kd, .int .i64 x.k, .int .i64 x.n]) (.agg #[.int .i64 y.f, .int .i64 y.t, .int .i64 y.kd, .int .i64 y.k, .int .i64 y.n])).run Tryz.prog w = .ok (.bool (Hvy.beq x y)) w := by
  have u3 := Tryz.underlying3
  have a3 := Tryz.isAgg3
  have z3 := Tryz.sizeOf3
  have hS : Tryz.prog.underlying 48 = some (.struct (Tryz.prog.fieldsOf 48)) := by kernel_rfl
  have hp : Tryz.prog.stoodInHeld 48 = false := by kernel_rfl
  rw [run_eql_struct, show (10000 : Nat) = 9999 + 1 from rfl, run_equalIn_agg w 9999 48 _ _ hS hp]
  simp only [Program.fieldsOf, Tryz.underlying48]
  go_simp
  obtain ⟨x0, x1, x2, x3, x4⟩ := x
  obtain ⟨y0, y1, y2, y3, y4⟩ := y
  unfold Hvy.beq
  by_cases h0 : x0 = y0 <;> by_cases h1 : x1 = y1 <;> by_cases h2 : x2 = y2 <;> by_cases h3 : x3 = y3 <;> by_cases h4 : x4 = y4 <;> simp [h0, h1, h2, h3, h4]
set_option maxHeartbeats 4000000 in
theorem ne_hvy (x y : Hvy) (w : World) : (binOp .neq 48 (.agg #[.int .i64 x.f, .int .i64 x.t, .int .i64 x.kd, .int .i64 x.k, .int .i64 x.n]) (.agg #[.int .i64 y.f, .int .i64 y.t, .int .i64 y.kd, .int .i64 y.k, .int .i64 y.n])).run Tryz.prog w = .ok (.bool (!Hvy.beq x y)) w := by
  have u3 := Tryz.underlying3
  have a3 := Tryz.isAgg3
  have z3 := Tryz.sizeOf3
  have hS : Tryz.prog.underlying 48 = some (.struct (Tryz.prog.fieldsOf 48)) := by kernel_rfl
  have hp : Tryz.prog.stoodInHeld 48 = false := by kernel_rfl
  rw [run_neq_struct, show (10000 : Nat) = 9999 + 1 from rfl, run_equalIn_agg w 9999 48 _ _ hS hp]
  simp only [Program.fieldsOf, Tryz.underlying48]
  go_simp
  obtain ⟨x0, x1, x2, x3, x4⟩ := x
  obtain ⟨y0, y1, y2, y3, y4⟩ := y
  unfold Hvy.beq
  by_cases h0 : x0 = y0 <;> by_cases h1 : x1 = y1 <;> by_cases h2 : x2 = y2 <;> by_cases h3 : x3 = y3 <;> by_cases h4 : x4 = y4 <;> simp [h0, h1, h2, h3, h4]
end Go.Proofs.YtcmafmdcgkpagaaGreat.F
