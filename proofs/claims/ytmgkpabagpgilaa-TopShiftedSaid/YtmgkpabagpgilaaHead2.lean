/-
  Contracts of small functions, several texts laid into one. Not a statement of the seat.
-/
import Derived.Test.YtmgkpabagpgilaaHead1
import Derived.Deep.Slices
import Derived.Deep.Fields
import Derived.ChangeSame
import Derived.OpenShut
import Derived.ProofKit
import Derived.Deep.DeepHandedRow
import Derived.Laws.AppendOwnNone
import Derived.Maps.AppendAt
import Derived.Deep.RegionLaw
namespace Go.Proofs.Ytmgkpabagpgilaa.F
open Go.ChangeShapes Go.WideShapes Go.ChangeAt Go.RowKit Base
section
open Go.Deep
variable {H : Type} {enc : TypeId × Value → H} {P : Program} {w : World}
/-- Is each cell of a type an int of 64 bits? (Structs in structs, too.) -/
def flatB (P : Program) : Nat → TypeId → Bool
  | 0, _ => false
  | n + 1, t => match P.underlying t with
    | some (.int k) => decide (k = .i64) && decide (P.cellsOf t = 1)
    | some (.struct fs) => fs.all (fun f => flatB P n f.type) && (List.range (P.cellsOf t)).all fun i => fs.any fun f => decide (f.offset ≤ i ∧ i < f.offset + P.cellsOf f.type)
    | _ => false
/-- An int of 64 bits. -/
def is64 (z : Int) : Prop := -9223372036854775808 ≤ z ∧ z ≤ 9223372036854775807
theorem flat_cells : ∀ (n : Nat) (t : TypeId), flatB P n t = true → ∀ (base : Nat) (spare : Nat → Bool) (held : Bool) (fuel : Nat) (cs : List Value) (x : DataW H × List MemPlace), DataW.trod enc P w base spare held fuel t cs = some x → ∀ i, i < P.cellsOf t → ∃ z, cs[i]? = some (.int .i64 z) ∧ is64 z
  | 0, _, h => by simp [flatB] at h
  | n + 1, t, h => by
    intro base spare held fuel cs x hx i hi
    unfold flatB at h
    split at h
    · next k hk =>
      rw [Bool.and_eq_true] at h
      have e1 := of_decide_eq_true h.1
      have e2 := of_decide_eq_true h.2
      subst e1
      obtain ⟨z, rfl, _, hw⟩ := DataW.trod_int hk hx
      have : i = 0 := by omega
      subst this
      exact ⟨z, rfl, bounds_i64 hw⟩
    · next fs hs =>
      rw [Bool.and_eq_true] at h
      obtain ⟨h1, h2⟩ := h
      obtain ⟨xs, n', _, _, hcl, hxl, hg⟩ := DataW.trod_struct hs hx
      have h3 := List.all_eq_true.1 h2 i (List.mem_range.2 hi)
      rw [Array.any_eq_true] at h3
      obtain ⟨j, hj, h3⟩ := h3
      have h4 := of_decide_eq_true h3
      have h5 := hg j fs[j] (Array.getElem?_eq_getElem hj)
      rw [List.getElem?_eq_getElem (by omega)] at h5
      have h6 : flatB P n fs[j].type = true := by
        rw [Array.all_eq_true] at h1
        exact h1 j hj
      obtain ⟨z, hz, hb⟩ := flat_cells n _ h6 _ _ _ _ _ _ h5 (i - fs[j].offset) (by omega)
      refine ⟨z, ?_, hb⟩
      rw [List.getElem?_take, if_pos (by omega), List.getElem?_drop] at hz
      rw [← hz]
      congr 1
      omega
    · cases h
/-- A slice of such structs. -/
theorem open_flat {r : Reach} {b0 n : Nat} {t e : TypeId} {v : Value} {d : DataW H} {p : List MemPlace} (ht : P.underlying t = some (.slice e)) (hf : flatB P n e = true) (hpos : 0 < P.cellsOf e) (hv : Value.okWide P w r b0 t v) (h : DataW.Trod enc P w 0 (fun _ => true) true t v d p) :
    ∃ (q : Option Addr) (len cap : Nat) (G : Nat → Nat → Int), v = .slice q len cap ∧ (q = none → cap = 0) ∧ len ≤ cap ∧ len ≤ 9223372036854775807 ∧ (∀ k j, is64 (G k j)) ∧ ∀ k, k < len → ∃ g o, q = some ⟨g, o, none⟩ ∧ g < w.heap.size ∧ ∀ j, j < P.cellsOf e → w.cell? ⟨g, o + k * P.cellsOf e + j, none⟩ = some (.int .i64 (G k j)) := by
  obtain ⟨a0, len, cap, rfl⟩ := okWide_slice ht hv
  obtain ⟨fuel, hfu⟩ := h
  rcases open_slice ht hfu with ⟨hcs, _⟩ | ⟨a, len', cap', m, n', D, Pl, hcs, _, hl, hm, hmm, _, hel⟩
  · simp [Value.cells] at hcs
    obtain ⟨rfl, rfl, rfl⟩ := hcs
    exact ⟨none, 0, 0, fun _ _ => 0, rfl, fun _ => rfl, by omega, by omega, fun _ _ => (show is64 0 from ⟨by decide, by decide⟩), fun k hk => absurd hk (by omega)⟩
  · simp [Value.cells] at hcs
    obtain ⟨rfl, rfl, rfl⟩ := hcs
    simp only [if_true] at hmm
    have key : ∀ k, ∀ j, ∃ z : Int, is64 z ∧ (k < len → j < P.cellsOf e → w.cell? ((a.add (k * P.cellsOf e)).add j) = some (.int .i64 z)) := fun k j => by
      by_cases hk : k < len ∧ j < P.cellsOf e
      · obtain ⟨cs', hc, ht'⟩ := hel k (by omega)
        obtain ⟨_, hcl, hat⟩ := World.cells?_some hc
        obtain ⟨z, hz, hb⟩ := flat_cells n e hf _ _ _ _ _ _ ht' j hk.2
        exact ⟨z, hb, fun _ _ => (hat j hk.2).trans hz⟩
      · exact ⟨0, ⟨by decide, by decide⟩, fun h1 h2 => absurd ⟨h1, h2⟩ hk⟩
    have hG : ∃ G : Nat → Nat → Int, ∀ k j, is64 (G k j) ∧ (k < len → j < P.cellsOf e → w.cell? ((a.add (k * P.cellsOf e)).add j) = some (.int .i64 (G k j))) := by
      obtain ⟨G, hG⟩ := Classical.axiomOfChoice fun k => Classical.axiomOfChoice (key k)
      exact ⟨G, hG⟩
    obtain ⟨G, hG⟩ := hG
    refine ⟨some a, len, cap, G, rfl, (fun e => by cases e), hl, by simp only [maxLen] at hm; omega, fun k j => (hG k j).1, fun k hk => ?_⟩
    obtain ⟨b, off, spot⟩ := a
    have h0 := (hG k 0).2 hk hpos
    have hspot : spot = none := by
      have h9 := World.cell?_spot ((hG 0 0).2 (by omega) hpos)
      simpa [Addr.add] using h9
    subst hspot
    refine ⟨b, off, rfl, ?_, fun j hj => ?_⟩
    · rw [add_plain, add_plain] at h0
      exact World.block_lt_of_cell? w _ h0
    · have := (hG k j).2 hk hj
      rwa [add_plain, add_plain] at this
/-- Such a struct by value. -/
theorem open_flat1 {r : Reach} {b0 n : Nat} {t : TypeId} {v : Value} {d : DataW H} {p : List MemPlace} {base : Nat} {spare : Nat → Bool} {held : Bool} {fs : Array Field} (hs : P.underlying t = some (.struct fs)) (hf : flatB P n t = true) (hv : Value.okWide P w r b0 t v) (h : DataW.Trod enc P w base spare held t v d p) :
    ∃ G : Nat → Int, (∀ j, is64 (G j)) ∧ v = .agg (((List.range (P.cellsOf t)).map fun j => Value.int .i64 (G j)).toArray) := by
  obtain ⟨cs, rfl, hsz⟩ := okWide_struct hs hv
  obtain ⟨fuel, hfu⟩ := h
  have key : ∀ j, ∃ z : Int, is64 z ∧ (j < P.cellsOf t → cs[j]? = some (.int .i64 z)) := fun j => by
    by_cases hj : j < P.cellsOf t
    · obtain ⟨z, hz, hb⟩ := flat_cells n t hf _ _ _ _ _ _ hfu j hj
      exact ⟨z, hb, fun _ => by simpa [Value.cells] using hz⟩
    · exact ⟨0, ⟨by decide, by decide⟩, fun h => absurd h hj⟩
  obtain ⟨G, hG⟩ := Classical.axiomOfChoice key
  refine ⟨G, fun j => (hG j).1, ?_⟩
  congr 1
  apply Array.ext_getElem?
  intro j
  by_cases hj : j < P.cellsOf t
  · rw [(hG j).2 hj]
    simp [hj]
  · rw [Array.getElem?_eq_none (by rw [hsz]; omega), Array.getElem?_eq_none (by simp; omega)]
end
end Go.Proofs.Ytmgkpabagpgilaa.F
namespace Go.Proofs.Ytmgkpabagpgilaa.F
open Go.ChangeShapes Go.WideShapes Go.ChangeAt Go.RowKit Base
section
open Go.Deep
variable {H : Type} {enc : TypeId × Value → H} {P : Program} {w : World}
/-- A slice of structs that came in, each field of one cell: where its fields lie, and that each reads. -/
theorem open_structs {r : Reach} {b0 : Nat} {t e : TypeId} {fs : Array Field} {v : Value} {d : DataW H} {p : List MemPlace} (ht : P.underlying t = some (.slice e)) (he : P.underlying e = some (.struct fs)) (hone : oneCellFields P fs = true)
    (hC : P.cellsOf e = fs.size) (hpos : 0 < fs.size) (hv : Value.okWide P w r b0 t v) (h : DataW.Trod enc P w 0 (fun _ => true) true t v d p) :
    ∃ (a0 : Option Addr) (len cap : Nat), v = .slice a0 len cap ∧ len ≤ 9223372036854775807 ∧ ∀ i, i < len → ∃ g o, a0 = some ⟨g, o, none⟩ ∧ g < w.heap.size ∧
      ∀ (j : Nat) (f : Field), fs[j]? = some f → ∃ (u : Value) (y : DataW H × List MemPlace) (n : Nat), w.cell? ⟨g, o + i * fs.size + j, none⟩ = some u ∧ DataW.trod enc P w 0 (fun _ => true) true n f.type [u] = some y := by
  obtain ⟨a0, len, cap, rfl⟩ := okWide_slice ht hv
  obtain ⟨fuel, hf⟩ := h
  refine ⟨a0, len, cap, rfl, ?_⟩
  rcases open_slice ht hf with ⟨hcs, _⟩ | ⟨a, len', cap', m, n, D, Pl, hcs, _, hl, hm, hmm, _, hel⟩
  · simp [Value.cells] at hcs
    obtain ⟨rfl, rfl, rfl⟩ := hcs
    exact ⟨by omega, fun i hi => absurd hi (by omega)⟩
  · simp [Value.cells] at hcs
    obtain ⟨rfl, rfl, rfl⟩ := hcs
    simp only [if_true] at hmm
    refine ⟨by simp only [maxLen] at hm; omega, fun i hi => ?_⟩
    obtain ⟨cs', hc, ht'⟩ := hel i (by omega)
    obtain ⟨_, hcl, hat⟩ := World.cells?_some hc
    obtain ⟨xs, n', _, _, _, hxl, hg⟩ := DataW.trod_struct he ht'
    rw [hC] at hcl hat
    have hcell : ∀ j, j < fs.size → ∃ u, cs'[j]? = some u ∧ w.cell? ((a.add (i * fs.size)).add j) = some u := fun j hj => by
      have h1 : cs'[j]? = some (cs'[j]'(by omega)) := List.getElem?_eq_getElem (by omega)
      exact ⟨_, h1, (hat j hj).trans h1⟩
    obtain ⟨b, off, spot⟩ := a
    have hspot : spot = none := by
      obtain ⟨cs0, hc0, _⟩ := hel 0 (by omega)
      obtain ⟨_, hcl0, hat0⟩ := World.cells?_some hc0
      rw [hC] at hcl0 hat0
      have hu := (hat0 0 hpos).trans (List.getElem?_eq_getElem (by omega))
      simpa [Addr.add] using World.cell?_spot hu
    subst hspot
    have hadd : ∀ j, (Addr.add (Addr.add ⟨b, off, none⟩ (i * fs.size)) j) = ⟨b, off + i * fs.size + j, none⟩ := fun j => by rw [add_plain, add_plain]
    refine ⟨b, off, rfl, ?_, fun j f hj => ?_⟩
    · obtain ⟨u, _, hu⟩ := hcell 0 hpos
      rw [hadd] at hu
      exact World.block_lt_of_cell? w _ hu
    · have hjl : j < fs.size := (Array.getElem?_eq_some_iff.1 hj).1
      obtain ⟨u, hu, hcu⟩ := hcell j hjl
      obtain ⟨ho, hk⟩ := hone_of hone j f hj
      have h1 := hg j f hj
      have h2 : (cs'.drop j).take 1 = [u] := by
        obtain ⟨hlt, hh⟩ := List.getElem?_eq_some_iff.1 hu
        rw [List.drop_eq_getElem_cons hlt, hh]; rfl
      rw [ho, hk, h2, List.getElem?_eq_getElem (by omega)] at h1
      rw [hadd] at hcu
      exact ⟨u, _, n', hcu, h1⟩
end
end Go.Proofs.Ytmgkpabagpgilaa.F
namespace Go.Proofs.Ytmgkpabagpgilaa.F
open Go.ChangeShapes Go.WideShapes Go.ChangeAt Go.RowKit Base
section
open Go.Deep
variable {H : Type} {enc : TypeId × Value → H} {P : Program} {w : World}
/-- A slice of structs that came in, each field of one cell: where its fields lie, and that each reads; out of its one cell. -/
theorem open_structs2 {t e : TypeId} {fs : Array Field} {u : Value} {n : Nat} {y : DataW H × List MemPlace} (ht : P.underlying t = some (.slice e)) (he : P.underlying e = some (.struct fs)) (hone : oneCellFields P fs = true)
    (hC : P.cellsOf e = fs.size) (hpos : 0 < fs.size) (h : DataW.trod enc P w 0 (fun _ => true) true n t [u] = some y) :
    ∃ (a0 : Option Addr) (len cap : Nat), u = .slice a0 len cap ∧ (a0 = none → cap = 0) ∧ len ≤ cap ∧ len ≤ 9223372036854775807 ∧ ∀ i, i < len → ∃ g o, a0 = some ⟨g, o, none⟩ ∧ g < w.heap.size ∧
      ∀ (j : Nat) (f : Field), fs[j]? = some f → ∃ (u : Value) (y : DataW H × List MemPlace) (n : Nat), w.cell? ⟨g, o + i * fs.size + j, none⟩ = some u ∧ DataW.trod enc P w 0 (fun _ => true) true n f.type [u] = some y := by
  rcases open_slice ht h with ⟨hcs, _⟩ | ⟨a, len, cap, m, n, D, Pl, hcs, _, hl, hm, hmm, _, hel⟩
  · obtain rfl := (List.cons.inj hcs).1
    exact ⟨none, 0, 0, rfl, fun _ => rfl, by omega, by omega, fun i hi => absurd hi (by omega)⟩
  · obtain rfl := (List.cons.inj hcs).1
    simp only [if_true] at hmm
    refine ⟨some a, len, cap, rfl, (fun e => by cases e), hl, by simp only [maxLen] at hm; omega, fun i hi => ?_⟩
    obtain ⟨cs', hc, ht'⟩ := hel i (by omega)
    obtain ⟨_, hcl, hat⟩ := World.cells?_some hc
    obtain ⟨xs, n', _, _, _, hxl, hg⟩ := DataW.trod_struct he ht'
    rw [hC] at hcl hat
    have hcell : ∀ j, j < fs.size → ∃ u, cs'[j]? = some u ∧ w.cell? ((a.add (i * fs.size)).add j) = some u := fun j hj => by
      have h1 : cs'[j]? = some (cs'[j]'(by omega)) := List.getElem?_eq_getElem (by omega)
      exact ⟨_, h1, (hat j hj).trans h1⟩
    obtain ⟨b, off, spot⟩ := a
    have hspot : spot = none := by
      obtain ⟨cs0, hc0, _⟩ := hel 0 (by omega)
      obtain ⟨_, hcl0, hat0⟩ := World.cells?_some hc0
      rw [hC] at hcl0 hat0
      have hu := (hat0 0 hpos).trans (List.getElem?_eq_getElem (by omega))
      simpa [Addr.add] using World.cell?_spot hu
    subst hspot
    have hadd : ∀ j, (Addr.add (Addr.add ⟨b, off, none⟩ (i * fs.size)) j) = ⟨b, off + i * fs.size + j, none⟩ := fun j => by rw [add_plain, add_plain]
    refine ⟨b, off, rfl, ?_, fun j f hj => ?_⟩
    · obtain ⟨u, _, hu⟩ := hcell 0 hpos
      rw [hadd] at hu
      exact World.block_lt_of_cell? w _ hu
    · have hjl : j < fs.size := (Array.getElem?_eq_some_iff.1 hj).1
      obtain ⟨u, hu, hcu⟩ := hcell j hjl
      obtain ⟨ho, hk⟩ := hone_of hone j f hj
      have h1 := hg j f hj
      have h2 : (cs'.drop j).take 1 = [u] := by
        obtain ⟨hlt, hh⟩ := List.getElem?_eq_some_iff.1 hu
        rw [List.drop_eq_getElem_cons hlt, hh]; rfl
      rw [ho, hk, h2, List.getElem?_eq_getElem (by omega)] at h1
      rw [hadd] at hcu
      exact ⟨u, _, n', hcu, h1⟩
end
end Go.Proofs.Ytmgkpabagpgilaa.F
namespace Go.Proofs.Ytmgkpabagpgilaa.F
open Go.ChangeShapes Go.WideShapes Go.ChangeAt Go.RowKit Base
/-- A value of the struct. -/
structure Hvy where
  f : Int
  t : Int
  kd : Int
  k : Int
  n : Int
def Hvy.zero : Hvy := ⟨0, 0, 0, 0, 0⟩
/-- Its cells. -/
def Hvy.vals (x : Hvy) : List Value := [.int .i64 x.f, .int .i64 x.t, .int .i64 x.kd, .int .i64 x.k, .int .i64 x.n]
/-- Its fields are ints of 64 bits. -/
def Hvy.ok (x : Hvy) : Prop := (-9223372036854775808 ≤ x.f ∧ x.f ≤ 9223372036854775807) ∧ (-9223372036854775808 ≤ x.t ∧ x.t ≤ 9223372036854775807) ∧ (-9223372036854775808 ≤ x.kd ∧ x.kd ≤ 9223372036854775807) ∧ (-9223372036854775808 ≤ x.k ∧ x.k ≤ 9223372036854775807) ∧ (-9223372036854775808 ≤ x.n ∧ x.n ≤ 9223372036854775807)
/-- The slice v, whose elements lie from block base on, holds xs. -/
def Hvys (base : Nat) (w : World) (v : Value) (xs : List Hvy) : Prop :=
  ((∃ p c, v = .slice p 0 c ∧ (p = none → c = 0)) ∧ xs = []) ∨ ∃ g o c, v = .slice (some ⟨g, o, none⟩) xs.length c ∧ base ≤ g ∧ g < w.heap.size ∧ xs.length ≤ 9223372036854775807 ∧ ∀ k, k < xs.length →
    w.cell? ⟨g, o + k * 5, none⟩ = some (.int .i64 (xs.getD k Hvy.zero).f) ∧ w.cell? ⟨g, o + k * 5 + 1, none⟩ = some (.int .i64 (xs.getD k Hvy.zero).t) ∧ w.cell? ⟨g, o + k * 5 + 2, none⟩ = some (.int .i64 (xs.getD k Hvy.zero).kd) ∧ w.cell? ⟨g, o + k * 5 + 3, none⟩ = some (.int .i64 (xs.getD k Hvy.zero).k) ∧ w.cell? ⟨g, o + k * 5 + 4, none⟩ = some (.int .i64 (xs.getD k Hvy.zero).n)
theorem Hvys.kept {base base' : Nat} {w w1 : World} {v : Value} {xs : List Hvy} (h : Hvys base w v xs) (hb : ∀ g, base ≤ g → g < w.heap.size → w1.heap[g]? = w.heap[g]? ∧ base' ≤ g) (hs : w.heap.size ≤ w1.heap.size) : Hvys base' w1 v xs := by
  rcases h with h | ⟨g, o, c, hv, h0, h1, h2, h3⟩
  · exact .inl h
  · refine .inr ⟨g, o, c, hv, (hb g h0 h1).2, Nat.lt_of_lt_of_le h1 hs, h2, fun k hk => ?_⟩
    have key : ∀ j, w1.cell? ⟨g, j, none⟩ = w.cell? ⟨g, j, none⟩ := fun j => World.cell?_of_block (a := ⟨g, j, none⟩) (hb g h0 h1).1
    simp only [key]
    exact h3 k hk
theorem Hvys.below {base : Nat} {w w1 : World} {v : Value} {xs : List Hvy} (h : Hvys base w v xs) (hb : Below w.heap.size w w1) : Hvys base w1 v xs :=
  h.kept (fun g h0 h1 => ⟨hb.block g h1, h0⟩) hb.size
theorem Hvys.grown {base : Nat} {w w1 : World} {v : Value} {xs : List Hvy} {x : Option Nat} (h : Hvys base w v xs) (hg : w.grownBy w1 x) (hx : ∀ b, x = some b → b < base) : Hvys base w1 v xs :=
  h.kept (fun g h0 h1 => ⟨hg.block g h1 (fun e => by have := hx g e.symm; omega), h0⟩) hg.size
theorem Hvys.mono {base base' : Nat} {w : World} {v : Value} {xs : List Hvy} (h : Hvys base w v xs) (hb : base' ≤ base) : Hvys base' w v xs :=
  h.kept (fun _ h0 _ => ⟨rfl, Nat.le_trans hb h0⟩) (Nat.le_refl _)
theorem Hvys.open_ {base : Nat} {w : World} {v : Value} {xs : List Hvy} (h : Hvys base w v xs) : ∃ p c, v = .slice p xs.length c ∧ xs.length ≤ 9223372036854775807 ∧ ∀ k, k < xs.length → ∃ g o, p = some ⟨g, o, none⟩ ∧ base ≤ g ∧ g < w.heap.size ∧
    w.cell? ⟨g, o + k * 5, none⟩ = some (.int .i64 (xs.getD k Hvy.zero).f) ∧ w.cell? ⟨g, o + k * 5 + 1, none⟩ = some (.int .i64 (xs.getD k Hvy.zero).t) ∧ w.cell? ⟨g, o + k * 5 + 2, none⟩ = some (.int .i64 (xs.getD k Hvy.zero).kd) ∧ w.cell? ⟨g, o + k * 5 + 3, none⟩ = some (.int .i64 (xs.getD k Hvy.zero).k) ∧ w.cell? ⟨g, o + k * 5 + 4, none⟩ = some (.int .i64 (xs.getD k Hvy.zero).n) := by
  rcases h with ⟨⟨p, c, hv⟩, rfl⟩ | ⟨g, o, c, hv, h0, h1, h2, h3⟩
  · exact ⟨p, c, hv.1, by simp, fun k hk => absurd hk (by simp)⟩
  · exact ⟨_, c, hv, h2, fun k hk => ⟨g, o, rfl, h0, h1, h3 k hk⟩⟩
theorem Hvys.nil {base : Nat} {w : World} : Hvys base w (.slice none 0 0) [] := .inl ⟨⟨_, _, rfl, fun _ => rfl⟩, rfl⟩
theorem hvy_flat_len (zs : List Hvy) : (zs.flatMap Hvy.vals).length = zs.length * 5 := by
  induction zs with
  | nil => rfl
  | cons x zs ih => rw [List.flatMap_cons, List.length_append, ih]; simp [Hvy.vals]; omega
theorem hvy_flat_get : ∀ (zs : List Hvy) (k j : Nat), k < zs.length → j < 5 → (zs.flatMap Hvy.vals)[k * 5 + j]? = (Hvy.vals (zs.getD k Hvy.zero))[j]?
  | x :: zs, 0, j, _, hj => by
    rw [List.flatMap_cons, List.getElem?_append_left (by simp [Hvy.vals]; omega)]
    simp
  | x :: zs, k + 1, j, hk, hj => by
    rw [List.flatMap_cons, List.getElem?_append_right (by simp [Hvy.vals]; omega), show (k + 1) * 5 + j - (Hvy.vals x).length = k * 5 + j by simp [Hvy.vals]; omega, hvy_flat_get zs k j (by simpa using hk) hj]
    rfl
theorem hvy_flat_take (zs : List Hvy) (m : Nat) : (zs.flatMap Hvy.vals).take (m * 5) = (zs.take m).flatMap Hvy.vals := by
  induction zs generalizing m with
  | nil => simp
  | cons x zs ih =>
    cases m with
    | zero => simp
    | succ m =>
      rw [List.flatMap_cons, List.take_succ_cons, List.flatMap_cons, ← ih m, List.take_append, List.take_of_length_le (by simp [Hvy.vals]; omega)]
      congr 2
      simp [Hvy.vals]; omega
theorem hvy_vals_one (zs : List Hvy) : ∀ u ∈ zs.flatMap Hvy.vals, u.oneCell' = true := by
  intro u hu
  obtain ⟨x, _, hx⟩ := List.mem_flatMap.1 hu
  simp only [Hvy.vals, List.mem_cons, List.not_mem_nil, or_false] at hx
  rcases hx with rfl | rfl | rfl | rfl | rfl <;> rfl
/-- The slice v, which the call made itself from block B on, holds zs. -/
def OwnHvy (B : Nat) (w : World) (v : Value) (zs : List Hvy) : Prop := w.ownsRow B 35 5 v zs.length (zs.flatMap Hvy.vals)
theorem OwnHvy.nil (B : Nat) (w : World) : OwnHvy B w (.slice none 0 0) [] := World.ownsRow_nil _ _ _ _
theorem OwnHvy.list {B : Nat} {w : World} {v : Value} {zs : List Hvy} (h : OwnHvy B w v zs) (hl : zs.length ≤ 9223372036854775807) : Hvys B w v zs := by
  have h' := h
  rcases h.2 with ⟨hv, h0⟩ | ⟨g, cap, cur, hv, hB, h2, _⟩
  · exact .inl ⟨⟨_, _, hv, fun _ => rfl⟩, List.length_eq_zero_iff.1 h0⟩
  · subst hv
    have hc : ∀ k j, k < zs.length → j < 5 → w.cell? ⟨g, 0 + k * 5 + j, none⟩ = (Hvy.vals (zs.getD k Hvy.zero))[j]? := fun k j hk hj => by
      rw [Nat.zero_add, ← hvy_flat_get zs k j hk hj]
      exact World.ownsRow.cellAt h' (k * 5 + j) (by omega)
    exact .inr ⟨g, 0, cap, rfl, hB, heap_lt h2, hl, fun k hk => ⟨hc k 0 hk (by omega), hc k 1 hk (by omega), hc k 2 hk (by omega), hc k 3 hk (by omega), hc k 4 hk (by omega)⟩⟩
theorem OwnHvy.kept {B : Nat} {w w1 : World} {v : Value} {zs : List Hvy} (h : OwnHvy B w v zs) {row : Option Nat} (hg : w.grownBy w1 row) (hne : v.ownBlock = none ∨ v.ownBlock ≠ row) : OwnHvy B w1 v zs := World.ownsRow.kept h hg hne
theorem OwnHvy.below {B : Nat} {w w1 : World} {v : Value} {zs : List Hvy} (h : OwnHvy B w v zs) (hb : Below w.heap.size w w1) : OwnHvy B w1 v zs :=
  World.ownsRow.kept h (row := none) ⟨hb.os, hb.tape, hb.output, hb.size, fun k hk _ => hb.block k hk⟩ (by cases v.ownBlock <;> simp)
theorem OwnHvy.base {B : Nat} {w : World} {v : Value} {zs : List Hvy} (h : OwnHvy B w v zs) : ∀ k, v.ownBlock = some k → B ≤ k ∧ k < w.heap.size := World.ownsRow.lt h
/-- The first m of it, in the same place. -/
theorem OwnHvy.cut {B : Nat} {w : World} {p : Option Addr} {n c : Nat} {zs : List Hvy} (h : OwnHvy B w (.slice p n c) zs) {m : Nat} (hm : m ≤ zs.length) : OwnHvy B w (.slice p m c) (zs.take m) := by
  obtain ⟨hl, h⟩ := h
  have hlen : (zs.take m).length = m := by rw [List.length_take]; omega
  refine ⟨by rw [hvy_flat_len], ?_⟩
  rw [hlen]
  rcases h with ⟨hv, h0⟩ | ⟨g, cap, cur, hv, h1, h2, h3, h4, h5, h6⟩
  · injection hv with e1 e2 e3
    subst e1 e3
    obtain rfl : m = 0 := by omega
    exact .inl ⟨rfl, rfl⟩
  · injection hv with e1 e2 e3
    subst e1 e3
    refine .inr ⟨g, c, cur, rfl, h1, h2, by omega, h4, h5, ?_⟩
    rw [← hvy_flat_take, ← h6, List.take_take]
    congr 1
    have := Nat.mul_le_mul_right 5 hm
    omega
theorem hvy_info : (Try.prog.info? 35).map (fun i => (i.zero, i.size, i.bytes)) = some (some (.agg #[.int .i64 0, .int .i64 0, .int .i64 0, .int .i64 0, .int .i64 0]), 5, 40) := by kernel_rfl
theorem run_append_hvys {B base : Nat} {w : World} {v u : Value} {zs ys : List Hvy} (ty : TypeId)
    (hB : B ≤ w.heap.size) (hown : OwnHvy B w v zs) (hys : Hvys base w u ys) (hl : zs.length + ys.length ≤ 1000000) :
    ∃ v' w', (Builtin.append_ #[30, 30] ty #[v, u]).run Try.prog w = .ok v' w' ∧ OwnHvy B w' v' (zs ++ ys) ∧ w.grownBy w' v.ownBlock ∧ (v'.ownBlock = v.ownBlock ∨ v'.ownBlock = some w.heap.size) := by
  obtain ⟨i0, hi, hz0, hz1, hz2⟩ := info_parts hvy_info
  rcases hys with ⟨⟨p, c, rfl, hpc⟩, rfl⟩ | ⟨g, o', c, rfl, _, _, _, hc⟩
  · cases p with
    | none =>
      obtain rfl := hpc rfl
      exact ⟨v, w, run_append_owned_none (P := Try.prog) (w := w) B 30 ty 35 i0 5 Try.underlying30 hi v zs.length (zs.flatMap Hvy.vals) hown, by rw [List.append_nil]; exact hown, World.grownBy.refl _ _, .inl rfl⟩
    | some ad =>
      obtain ⟨v', w', hr, h2, h3, _, h5⟩ := run_append_own_at (P := Try.prog) w B 30 ty 35 i0 (.agg #[.int .i64 0, .int .i64 0, .int .i64 0, .int .i64 0, .int .i64 0]) 5 40 Try.underlying30 hi hz0 hz1 hz2 rfl (by decide) v zs.length (zs.flatMap Hvy.vals) hown ad 0 c [] (by simp) (by simp) (by simp) (by simp only [maxLen]; omega) (by omega) hB
      refine ⟨v', w', hr, ?_, h3, h5⟩
      rw [List.append_nil]
      unfold OwnHvy
      simpa using h2
  · obtain ⟨v', w', hr, h2, h3, _, h5⟩ := run_append_own_at (P := Try.prog) w B 30 ty 35 i0 (.agg #[.int .i64 0, .int .i64 0, .int .i64 0, .int .i64 0, .int .i64 0]) 5 40 Try.underlying30 hi hz0 hz1 hz2 rfl (by decide) v zs.length (zs.flatMap Hvy.vals) hown ⟨g, o', none⟩ ys.length c (ys.flatMap Hvy.vals) (hvy_flat_len ys) (by
      intro t y hy
      have ht : t < ys.length * 5 := by rw [← hvy_flat_len ys]; exact (List.getElem?_eq_some_iff.1 hy).1
      have hk : t / 5 < ys.length := by omega
      have hr : t % 5 < 5 := Nat.mod_lt _ (by decide)
      have e : t = t / 5 * 5 + t % 5 := by omega
      have hcc := hc (t / 5) hk
      rw [e, hvy_flat_get ys _ _ hk hr] at hy
      rw [add_plain, e]
      generalize t / 5 = k at hcc hy
      generalize t % 5 = j at hr hy
      obtain ⟨c0, c1, c2, c3, c4⟩ := hcc
      match j, hr, hy with
      | 0, _, hy => simp [Hvy.vals] at hy; subst hy; simpa [Nat.add_assoc] using c0
      | 1, _, hy => simp [Hvy.vals] at hy; subst hy; simpa [Nat.add_assoc] using c1
      | 2, _, hy => simp [Hvy.vals] at hy; subst hy; simpa [Nat.add_assoc] using c2
      | 3, _, hy => simp [Hvy.vals] at hy; subst hy; simpa [Nat.add_assoc] using c3
      | 4, _, hy => simp [Hvy.vals] at hy; subst hy; simpa [Nat.add_assoc] using c4) (hvy_vals_one ys) (by simp only [maxLen]; omega) (by omega) hB
    refine ⟨v', w', hr, ?_, h3, h5⟩
    unfold OwnHvy
    rw [List.length_append, List.flatMap_append]
    exact h2
/-- Some are put behind a slice of the call's own. -/
theorem append_hvys {ops : Array Oper} {rest : List Oper} {o : Oper} {a : Act} {Q : Exit → Act → World → Prop} (hgd : o.guard = none) (s x : Operand)
    (ho : o.op = .call { callee := .builtin .append, args := #[s, x], argTypes := #[30, 30] }) {B base : Nat} {w : World} {v u : Value} {zs ys : List Hvy}
    (hB : B ≤ w.heap.size) (hown : OwnHvy B w v zs) (hs : a.eval s = v) (hys : Hvys base w u ys) (hx : a.eval x = u) (hl : zs.length + ys.length ≤ 1000000)
    (h : ∀ v' w', OwnHvy B w' v' (zs ++ ys) → w.grownBy w' v.ownBlock → (v'.ownBlock = v.ownBlock ∨ v'.ownBlock = some w.heap.size) → wpList Try.prog ops Q rest (a.put o.dst v') w') :
    wpList Try.prog ops Q (o :: rest) a w := by
  refine wpList_plain hgd fun K hK => ?_
  obtain ⟨v', w', hr, h2, h3, h5⟩ := run_append_hvys o.type hB hown hys hl
  unfold Oper.wp execOp
  simp only [ho, resolve, invoke, builtin, Sem.run_bind, Sem.run_pure, Result.andThen_ok, List.map_toArray, List.map_cons, List.map_nil, hs, hx, hr]
  exact hK _ _ (h v' w' h2 h3 h5)
/-- The same, as one step of a region that draws its order. -/
theorem step_append_hvys {ops : Array Oper} {o : Oper} {a : Act} {w : World} {K : Act → World → Prop} {Q : Exit → Act → World → Prop} {E : Prop} (hgd : o.guard = none) (s x : Operand)
    (ho : o.op = .call { callee := .builtin .append, args := #[s, x], argTypes := #[30, 30] }) {B base : Nat} {v u : Value} {zs ys : List Hvy}
    (hB : B ≤ w.heap.size) (hown : OwnHvy B w v zs) (hs : a.eval s = v) (hys : Hvys base w u ys) (hx : a.eval x = u) (hl : zs.length + ys.length ≤ 1000000)
    (hK : ∀ v' w', OwnHvy B w' v' (zs ++ ys) → w.grownBy w' v.ownBlock → (v'.ownBlock = v.ownBlock ∨ v'.ownBlock = some w.heap.size) → K (a.put o.dst v') w') :
    if Region.wanted o (yielded ops a.tmps) = true then Oper.wp Try.prog o a w K Q else E := by
  rw [if_pos (by simp [Region.wanted, hgd])]
  obtain ⟨v', w', hr, h2, h3, h5⟩ := run_append_hvys o.type hB hown hys hl
  unfold Oper.wp
  simp [execOp, ho, resolve, invoke, builtin, hs, hx, hr, Result.andThen]
  exact hK v' w' h2 h3 h5
theorem OwnHvy.lay {B : Nat} {w X : World} {v : Value} {zs : List Hvy} (h : OwnHvy B w v zs) (hx : X.heap = w.heap) (o : Obj) : OwnHvy B (X.alloc o) v zs := by
  have h1 : OwnHvy B X v zs := by
    unfold OwnHvy World.ownsRow at *
    rw [hx]
    exact h
  exact World.ownsRow.alloc h1 o
theorem ownHvy_empty {B : Nat} {W : World} {g : Nat} (hB : B ≤ g) (h : W.heap[g]? = some (.cells #[] 35)) : OwnHvy B W (.slice (some ⟨g, 0, none⟩) 0 0) [] :=
  ⟨rfl, .inr ⟨g, 0, #[], rfl, hB, h, Nat.le_refl _, by simp [maxLen], rfl, rfl⟩⟩
/-- One that is typed out. -/
theorem hvy_at {X : World} {g : Nat} (c : Hvy) (h : X.heap[g]? = some (.cells #[.int .i64 c.f, .int .i64 c.t, .int .i64 c.kd, .int .i64 c.k, .int .i64 c.n] 35)) : Hvys 0 X (.slice (some ⟨g, 0, none⟩) 1 1) [c] := by
  refine .inr ⟨g, 0, 1, rfl, Nat.zero_le _, heap_lt h, by simp, fun k hk => ?_⟩
  have : k = 0 := by simpa using hk
  subst this
  simp only [World.cell?, h]
  simp
theorem hvy_lit (c : Hvy) (X : World) : Hvys 0 (X.alloc (.cells #[.int .i64 c.f, .int .i64 c.t, .int .i64 c.kd, .int .i64 c.k, .int .i64 c.n] 35)) (.slice (some ⟨X.heap.size, 0, none⟩) 1 1) [c] := hvy_at c (heap_alloc_at _ _ _ rfl)

theorem hvy_flat : flatB Try.prog 8 35 = true := by kernel_rfl
theorem hvy_cells : Try.prog.cellsOf 35 = 5 := by kernel_rfl
section
variable {H : Type} {enc : TypeId × Value → H} {w : World}
set_option maxRecDepth 100000 in
theorem open_hvys {r : Reach} {b0 : Nat} {v : Value} {d : DataW H} {p : List MemPlace} (hv : Value.okWide Try.prog w r b0 30 v) (h : DataW.Trod enc Try.prog w 0 (fun _ => true) true 30 v d p) : ∃ xs, (∃ p c, v = .slice p xs.length c ∧ xs.length ≤ c) ∧ Hvys 0 w v xs ∧ ∀ x ∈ xs, Hvy.ok x := by
  obtain ⟨q, len, cap, G, rfl, hqc, hlc, hl, hG, hc⟩ := open_flat Try.underlying30 hvy_flat (by rw [hvy_cells]; decide) hv h
  rw [hvy_cells] at hc
  have hlen : ((List.range len).map fun k => (⟨G k 0, G k 1, G k 2, G k 3, G k 4⟩ : Hvy)).length = len := by simp
  refine ⟨(List.range len).map fun k => ⟨G k 0, G k 1, G k 2, G k 3, G k 4⟩, ⟨q, cap, by rw [hlen], by rw [hlen]; exact hlc⟩, ?_, fun x hx => ?_⟩
  · by_cases h0 : len = 0
    · subst h0
      exact .inl ⟨⟨_, _, rfl, hqc⟩, rfl⟩
    · obtain ⟨g, o, hq, hg, _⟩ := hc 0 (by omega)
      subst hq
      refine .inr ⟨g, o, cap, by rw [hlen], Nat.zero_le _, hg, by rw [hlen]; exact hl, fun k hk => ?_⟩
      rw [hlen] at hk
      obtain ⟨g', o', hq, _, hcc⟩ := hc k hk
      simp only [Option.some.injEq, Addr.mk.injEq, and_true] at hq
      obtain ⟨rfl, rfl⟩ := hq
      have hget : ((List.range len).map fun k => (⟨G k 0, G k 1, G k 2, G k 3, G k 4⟩ : Hvy)).getD k Hvy.zero = ⟨G k 0, G k 1, G k 2, G k 3, G k 4⟩ := by simp [List.getD_eq_getElem?_getD, hk]
      rw [hget]
      exact ⟨hcc 0 (by omega), hcc 1 (by omega), hcc 2 (by omega), hcc 3 (by omega), hcc 4 (by omega)⟩
  · obtain ⟨k, _, rfl⟩ := List.mem_map.1 hx
    exact ⟨hG k 0, hG k 1, hG k 2, hG k 3, hG k 4⟩
set_option maxRecDepth 100000 in
theorem open_hvy {r : Reach} {b0 : Nat} {v : Value} {d : DataW H} {p : List MemPlace} {base : Nat} {spare : Nat → Bool} {held : Bool} (hv : Value.okWide Try.prog w r b0 35 v) (h : DataW.Trod enc Try.prog w base spare held 35 v d p) : ∃ x : Hvy, Hvy.ok x ∧ v = .agg #[.int .i64 x.f, .int .i64 x.t, .int .i64 x.kd, .int .i64 x.k, .int .i64 x.n] := by
  obtain ⟨G, hG, hv'⟩ := open_flat1 Try.underlying35 hvy_flat hv h
  rw [hvy_cells] at hv'
  exact ⟨⟨G 0, G 1, G 2, G 3, G 4⟩, ⟨hG 0, hG 1, hG 2, hG 3, hG 4⟩, hv'⟩
end
end Go.Proofs.Ytmgkpabagpgilaa.F
namespace Go.Proofs.Ytmgkpabagpgilaa.F
open Go.ChangeShapes Go.WideShapes Go.ChangeAt Go.RowKit Base
/-- A value of the struct. -/
structure Txc where
  i : Int
  d : Bool
  s : Option Addr × Nat × Nat
def Txc.zero : Txc := ⟨0, false, (none, 0, 0)⟩
/-- Its cells. -/
def Txc.vals (x : Txc) : List Value := [.int .i64 x.i, .bool x.d, .slice x.s.1 x.s.2.1 x.s.2.2]
/-- The slice v, whose elements lie from block base on, holds xs. -/
def Txcs (base : Nat) (w : World) (v : Value) (xs : List Txc) : Prop :=
  ((∃ p c, v = .slice p 0 c ∧ (p = none → c = 0)) ∧ xs = []) ∨ ∃ g o c, v = .slice (some ⟨g, o, none⟩) xs.length c ∧ base ≤ g ∧ g < w.heap.size ∧ xs.length ≤ 9223372036854775807 ∧ ∀ k, k < xs.length →
    w.cell? ⟨g, o + k * 3, none⟩ = some (.int .i64 (xs.getD k Txc.zero).i) ∧ w.cell? ⟨g, o + k * 3 + 1, none⟩ = some (.bool (xs.getD k Txc.zero).d) ∧ w.cell? ⟨g, o + k * 3 + 2, none⟩ = some (.slice (xs.getD k Txc.zero).s.1 (xs.getD k Txc.zero).s.2.1 (xs.getD k Txc.zero).s.2.2)
theorem Txcs.kept {base base' : Nat} {w w1 : World} {v : Value} {xs : List Txc} (h : Txcs base w v xs) (hb : ∀ g, base ≤ g → g < w.heap.size → w1.heap[g]? = w.heap[g]? ∧ base' ≤ g) (hs : w.heap.size ≤ w1.heap.size) : Txcs base' w1 v xs := by
  rcases h with h | ⟨g, o, c, hv, h0, h1, h2, h3⟩
  · exact .inl h
  · refine .inr ⟨g, o, c, hv, (hb g h0 h1).2, Nat.lt_of_lt_of_le h1 hs, h2, fun k hk => ?_⟩
    have key : ∀ j, w1.cell? ⟨g, j, none⟩ = w.cell? ⟨g, j, none⟩ := fun j => World.cell?_of_block (a := ⟨g, j, none⟩) (hb g h0 h1).1
    simp only [key]
    exact h3 k hk
theorem Txcs.below {base : Nat} {w w1 : World} {v : Value} {xs : List Txc} (h : Txcs base w v xs) (hb : Below w.heap.size w w1) : Txcs base w1 v xs :=
  h.kept (fun g h0 h1 => ⟨hb.block g h1, h0⟩) hb.size
theorem Txcs.grown {base : Nat} {w w1 : World} {v : Value} {xs : List Txc} {x : Option Nat} (h : Txcs base w v xs) (hg : w.grownBy w1 x) (hx : ∀ b, x = some b → b < base) : Txcs base w1 v xs :=
  h.kept (fun g h0 h1 => ⟨hg.block g h1 (fun e => by have := hx g e.symm; omega), h0⟩) hg.size
theorem Txcs.mono {base base' : Nat} {w : World} {v : Value} {xs : List Txc} (h : Txcs base w v xs) (hb : base' ≤ base) : Txcs base' w v xs :=
  h.kept (fun _ h0 _ => ⟨rfl, Nat.le_trans hb h0⟩) (Nat.le_refl _)
theorem Txcs.open_ {base : Nat} {w : World} {v : Value} {xs : List Txc} (h : Txcs base w v xs) : ∃ p c, v = .slice p xs.length c ∧ xs.length ≤ 9223372036854775807 ∧ ∀ k, k < xs.length → ∃ g o, p = some ⟨g, o, none⟩ ∧ base ≤ g ∧ g < w.heap.size ∧
    w.cell? ⟨g, o + k * 3, none⟩ = some (.int .i64 (xs.getD k Txc.zero).i) ∧ w.cell? ⟨g, o + k * 3 + 1, none⟩ = some (.bool (xs.getD k Txc.zero).d) ∧ w.cell? ⟨g, o + k * 3 + 2, none⟩ = some (.slice (xs.getD k Txc.zero).s.1 (xs.getD k Txc.zero).s.2.1 (xs.getD k Txc.zero).s.2.2) := by
  rcases h with ⟨⟨p, c, hv⟩, rfl⟩ | ⟨g, o, c, hv, h0, h1, h2, h3⟩
  · exact ⟨p, c, hv.1, by simp, fun k hk => absurd hk (by simp)⟩
  · exact ⟨_, c, hv, h2, fun k hk => ⟨g, o, rfl, h0, h1, h3 k hk⟩⟩
theorem Txcs.nil {base : Nat} {w : World} : Txcs base w (.slice none 0 0) [] := .inl ⟨⟨_, _, rfl, fun _ => rfl⟩, rfl⟩
theorem txc_flat_len (zs : List Txc) : (zs.flatMap Txc.vals).length = zs.length * 3 := by
  induction zs with
  | nil => rfl
  | cons x zs ih => rw [List.flatMap_cons, List.length_append, ih]; simp [Txc.vals]; omega
theorem txc_flat_get : ∀ (zs : List Txc) (k j : Nat), k < zs.length → j < 3 → (zs.flatMap Txc.vals)[k * 3 + j]? = (Txc.vals (zs.getD k Txc.zero))[j]?
  | x :: zs, 0, j, _, hj => by
    rw [List.flatMap_cons, List.getElem?_append_left (by simp [Txc.vals]; omega)]
    simp
  | x :: zs, k + 1, j, hk, hj => by
    rw [List.flatMap_cons, List.getElem?_append_right (by simp [Txc.vals]; omega), show (k + 1) * 3 + j - (Txc.vals x).length = k * 3 + j by simp [Txc.vals]; omega, txc_flat_get zs k j (by simpa using hk) hj]
    rfl
theorem txc_flat_take (zs : List Txc) (m : Nat) : (zs.flatMap Txc.vals).take (m * 3) = (zs.take m).flatMap Txc.vals := by
  induction zs generalizing m with
  | nil => simp
  | cons x zs ih =>
    cases m with
    | zero => simp
    | succ m =>
      rw [List.flatMap_cons, List.take_succ_cons, List.flatMap_cons, ← ih m, List.take_append, List.take_of_length_le (by simp [Txc.vals]; omega)]
      congr 2
      simp [Txc.vals]; omega
theorem txc_vals_one (zs : List Txc) : ∀ u ∈ zs.flatMap Txc.vals, u.oneCell' = true := by
  intro u hu
  obtain ⟨x, _, hx⟩ := List.mem_flatMap.1 hu
  simp only [Txc.vals, List.mem_cons, List.not_mem_nil, or_false] at hx
  rcases hx with rfl | rfl | rfl <;> rfl
/-- The slice v, which the call made itself from block B on, holds zs. -/
def OwnTxc (B : Nat) (w : World) (v : Value) (zs : List Txc) : Prop := w.ownsRow B 40 3 v zs.length (zs.flatMap Txc.vals)
theorem OwnTxc.nil (B : Nat) (w : World) : OwnTxc B w (.slice none 0 0) [] := World.ownsRow_nil _ _ _ _
theorem OwnTxc.list {B : Nat} {w : World} {v : Value} {zs : List Txc} (h : OwnTxc B w v zs) (hl : zs.length ≤ 9223372036854775807) : Txcs B w v zs := by
  have h' := h
  rcases h.2 with ⟨hv, h0⟩ | ⟨g, cap, cur, hv, hB, h2, _⟩
  · exact .inl ⟨⟨_, _, hv, fun _ => rfl⟩, List.length_eq_zero_iff.1 h0⟩
  · subst hv
    have hc : ∀ k j, k < zs.length → j < 3 → w.cell? ⟨g, 0 + k * 3 + j, none⟩ = (Txc.vals (zs.getD k Txc.zero))[j]? := fun k j hk hj => by
      rw [Nat.zero_add, ← txc_flat_get zs k j hk hj]
      exact World.ownsRow.cellAt h' (k * 3 + j) (by omega)
    exact .inr ⟨g, 0, cap, rfl, hB, heap_lt h2, hl, fun k hk => ⟨hc k 0 hk (by omega), hc k 1 hk (by omega), hc k 2 hk (by omega)⟩⟩
theorem OwnTxc.kept {B : Nat} {w w1 : World} {v : Value} {zs : List Txc} (h : OwnTxc B w v zs) {row : Option Nat} (hg : w.grownBy w1 row) (hne : v.ownBlock = none ∨ v.ownBlock ≠ row) : OwnTxc B w1 v zs := World.ownsRow.kept h hg hne
theorem OwnTxc.below {B : Nat} {w w1 : World} {v : Value} {zs : List Txc} (h : OwnTxc B w v zs) (hb : Below w.heap.size w w1) : OwnTxc B w1 v zs :=
  World.ownsRow.kept h (row := none) ⟨hb.os, hb.tape, hb.output, hb.size, fun k hk _ => hb.block k hk⟩ (by cases v.ownBlock <;> simp)
theorem OwnTxc.base {B : Nat} {w : World} {v : Value} {zs : List Txc} (h : OwnTxc B w v zs) : ∀ k, v.ownBlock = some k → B ≤ k ∧ k < w.heap.size := World.ownsRow.lt h
/-- The first m of it, in the same place. -/
theorem OwnTxc.cut {B : Nat} {w : World} {p : Option Addr} {n c : Nat} {zs : List Txc} (h : OwnTxc B w (.slice p n c) zs) {m : Nat} (hm : m ≤ zs.length) : OwnTxc B w (.slice p m c) (zs.take m) := by
  obtain ⟨hl, h⟩ := h
  have hlen : (zs.take m).length = m := by rw [List.length_take]; omega
  refine ⟨by rw [txc_flat_len], ?_⟩
  rw [hlen]
  rcases h with ⟨hv, h0⟩ | ⟨g, cap, cur, hv, h1, h2, h3, h4, h5, h6⟩
  · injection hv with e1 e2 e3
    subst e1 e3
    obtain rfl : m = 0 := by omega
    exact .inl ⟨rfl, rfl⟩
  · injection hv with e1 e2 e3
    subst e1 e3
    refine .inr ⟨g, c, cur, rfl, h1, h2, by omega, h4, h5, ?_⟩
    rw [← txc_flat_take, ← h6, List.take_take]
    congr 1
    have := Nat.mul_le_mul_right 3 hm
    omega
theorem txc_info : (Try.prog.info? 40).map (fun i => (i.zero, i.size, i.bytes)) = some (some (.agg #[.int .i64 0, .bool false, .slice none 0 0]), 3, 40) := by kernel_rfl
theorem run_append_txcs {B base : Nat} {w : World} {v u : Value} {zs ys : List Txc} (ty : TypeId)
    (hB : B ≤ w.heap.size) (hown : OwnTxc B w v zs) (hys : Txcs base w u ys) (hl : zs.length + ys.length ≤ 1000000) :
    ∃ v' w', (Builtin.append_ #[22, 22] ty #[v, u]).run Try.prog w = .ok v' w' ∧ OwnTxc B w' v' (zs ++ ys) ∧ w.grownBy w' v.ownBlock ∧ (v'.ownBlock = v.ownBlock ∨ v'.ownBlock = some w.heap.size) := by
  obtain ⟨i0, hi, hz0, hz1, hz2⟩ := info_parts txc_info
  rcases hys with ⟨⟨p, c, rfl, hpc⟩, rfl⟩ | ⟨g, o', c, rfl, _, _, _, hc⟩
  · cases p with
    | none =>
      obtain rfl := hpc rfl
      exact ⟨v, w, run_append_owned_none (P := Try.prog) (w := w) B 22 ty 40 i0 3 Try.underlying22 hi v zs.length (zs.flatMap Txc.vals) hown, by rw [List.append_nil]; exact hown, World.grownBy.refl _ _, .inl rfl⟩
    | some ad =>
      obtain ⟨v', w', hr, h2, h3, _, h5⟩ := run_append_own_at (P := Try.prog) w B 22 ty 40 i0 (.agg #[.int .i64 0, .bool false, .slice none 0 0]) 3 40 Try.underlying22 hi hz0 hz1 hz2 rfl (by decide) v zs.length (zs.flatMap Txc.vals) hown ad 0 c [] (by simp) (by simp) (by simp) (by simp only [maxLen]; omega) (by omega) hB
      refine ⟨v', w', hr, ?_, h3, h5⟩
      rw [List.append_nil]
      unfold OwnTxc
      simpa using h2
  · obtain ⟨v', w', hr, h2, h3, _, h5⟩ := run_append_own_at (P := Try.prog) w B 22 ty 40 i0 (.agg #[.int .i64 0, .bool false, .slice none 0 0]) 3 40 Try.underlying22 hi hz0 hz1 hz2 rfl (by decide) v zs.length (zs.flatMap Txc.vals) hown ⟨g, o', none⟩ ys.length c (ys.flatMap Txc.vals) (txc_flat_len ys) (by
      intro t y hy
      have ht : t < ys.length * 3 := by rw [← txc_flat_len ys]; exact (List.getElem?_eq_some_iff.1 hy).1
      have hk : t / 3 < ys.length := by omega
      have hr : t % 3 < 3 := Nat.mod_lt _ (by decide)
      have e : t = t / 3 * 3 + t % 3 := by omega
      have hcc := hc (t / 3) hk
      rw [e, txc_flat_get ys _ _ hk hr] at hy
      rw [add_plain, e]
      generalize t / 3 = k at hcc hy
      generalize t % 3 = j at hr hy
      obtain ⟨c0, c1, c2⟩ := hcc
      match j, hr, hy with
      | 0, _, hy => simp [Txc.vals] at hy; subst hy; simpa [Nat.add_assoc] using c0
      | 1, _, hy => simp [Txc.vals] at hy; subst hy; simpa [Nat.add_assoc] using c1
      | 2, _, hy => simp [Txc.vals] at hy; subst hy; simpa [Nat.add_assoc] using c2) (txc_vals_one ys) (by simp only [maxLen]; omega) (by omega) hB
    refine ⟨v', w', hr, ?_, h3, h5⟩
    unfold OwnTxc
    rw [List.length_append, List.flatMap_append]
    exact h2
/-- Some are put behind a slice of the call's own. -/
theorem append_txcs {ops : Array Oper} {rest : List Oper} {o : Oper} {a : Act} {Q : Exit → Act → World → Prop} (hgd : o.guard = none) (s x : Operand)
    (ho : o.op = .call { callee := .builtin .append, args := #[s, x], argTypes := #[22, 22] }) {B base : Nat} {w : World} {v u : Value} {zs ys : List Txc}
    (hB : B ≤ w.heap.size) (hown : OwnTxc B w v zs) (hs : a.eval s = v) (hys : Txcs base w u ys) (hx : a.eval x = u) (hl : zs.length + ys.length ≤ 1000000)
    (h : ∀ v' w', OwnTxc B w' v' (zs ++ ys) → w.grownBy w' v.ownBlock → (v'.ownBlock = v.ownBlock ∨ v'.ownBlock = some w.heap.size) → wpList Try.prog ops Q rest (a.put o.dst v') w') :
    wpList Try.prog ops Q (o :: rest) a w := by
  refine wpList_plain hgd fun K hK => ?_
  obtain ⟨v', w', hr, h2, h3, h5⟩ := run_append_txcs o.type hB hown hys hl
  unfold Oper.wp execOp
  simp only [ho, resolve, invoke, builtin, Sem.run_bind, Sem.run_pure, Result.andThen_ok, List.map_toArray, List.map_cons, List.map_nil, hs, hx, hr]
  exact hK _ _ (h v' w' h2 h3 h5)
/-- The same, as one step of a region that draws its order. -/
theorem step_append_txcs {ops : Array Oper} {o : Oper} {a : Act} {w : World} {K : Act → World → Prop} {Q : Exit → Act → World → Prop} {E : Prop} (hgd : o.guard = none) (s x : Operand)
    (ho : o.op = .call { callee := .builtin .append, args := #[s, x], argTypes := #[22, 22] }) {B base : Nat} {v u : Value} {zs ys : List Txc}
    (hB : B ≤ w.heap.size) (hown : OwnTxc B w v zs) (hs : a.eval s = v) (hys : Txcs base w u ys) (hx : a.eval x = u) (hl : zs.length + ys.length ≤ 1000000)
    (hK : ∀ v' w', OwnTxc B w' v' (zs ++ ys) → w.grownBy w' v.ownBlock → (v'.ownBlock = v.ownBlock ∨ v'.ownBlock = some w.heap.size) → K (a.put o.dst v') w') :
    if Region.wanted o (yielded ops a.tmps) = true then Oper.wp Try.prog o a w K Q else E := by
  rw [if_pos (by simp [Region.wanted, hgd])]
  obtain ⟨v', w', hr, h2, h3, h5⟩ := run_append_txcs o.type hB hown hys hl
  unfold Oper.wp
  simp [execOp, ho, resolve, invoke, builtin, hs, hx, hr, Result.andThen]
  exact hK v' w' h2 h3 h5
theorem OwnTxc.lay {B : Nat} {w X : World} {v : Value} {zs : List Txc} (h : OwnTxc B w v zs) (hx : X.heap = w.heap) (o : Obj) : OwnTxc B (X.alloc o) v zs := by
  have h1 : OwnTxc B X v zs := by
    unfold OwnTxc World.ownsRow at *
    rw [hx]
    exact h
  exact World.ownsRow.alloc h1 o
theorem ownTxc_empty {B : Nat} {W : World} {g : Nat} (hB : B ≤ g) (h : W.heap[g]? = some (.cells #[] 40)) : OwnTxc B W (.slice (some ⟨g, 0, none⟩) 0 0) [] :=
  ⟨rfl, .inr ⟨g, 0, #[], rfl, hB, h, Nat.le_refl _, by simp [maxLen], rfl, rfl⟩⟩
/-- One that is typed out. -/
theorem txc_at {X : World} {g : Nat} (c : Txc) (h : X.heap[g]? = some (.cells #[.int .i64 c.i, .bool c.d, .slice c.s.1 c.s.2.1 c.s.2.2] 40)) : Txcs 0 X (.slice (some ⟨g, 0, none⟩) 1 1) [c] := by
  refine .inr ⟨g, 0, 1, rfl, Nat.zero_le _, heap_lt h, by simp, fun k hk => ?_⟩
  have : k = 0 := by simpa using hk
  subst this
  simp only [World.cell?, h]
  simp
theorem txc_lit (c : Txc) (X : World) : Txcs 0 (X.alloc (.cells #[.int .i64 c.i, .bool c.d, .slice c.s.1 c.s.2.1 c.s.2.2] 40)) (.slice (some ⟨X.heap.size, 0, none⟩) 1 1) [c] := txc_at c (heap_alloc_at _ _ _ rfl)

end Go.Proofs.Ytmgkpabagpgilaa.F
