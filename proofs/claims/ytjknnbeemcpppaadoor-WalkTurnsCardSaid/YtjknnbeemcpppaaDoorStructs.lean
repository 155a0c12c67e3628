/-
  Slices of structs whose cells are all ints, and such structs by value, that came in: how they read. Not a statement of the seat.
-/
import Derived.Test.YtjknnbeemcpppaaDoorBase
import Derived.Deep.Slices
import Derived.Deep.Fields
import Derived.ChangeSame
import Derived.OpenShut
import Derived.ProofKit
import Derived.Deep.DeepHandedRow
import Derived.Laws.AppendOwnNone
import Derived.Maps.AppendAt
import Derived.Deep.RegionLaw
namespace Go.Proofs.YtjknnbeemcpppaaDoor.F
open Go.ChangeShapes Go.WideShapes Go.ChangeAt Go.RowKit Base
section
open Go.Deep
variable {H : Type} {enc : TypeId × Value → H} {P : Program} {w : World}
/-- Is each cell of a type an int of 64 bits? (Structs in structs, too.) -/
def flatB (P : Program) : Nat → TypeId → Bool
  | 0, _ => false
  | n + 1, t => match P.underlying t with
    | some (.int k) => decide (k = .i64) && decide (P.cellsOf t = 1)
    | some (.struct fs) => fs.all (fun f => flatB P n f.type) && (List.range (P.cellsOf t)).all fun i => fs.any fun f => decide (f.offset ≤ i ∧ i < f.offset + P.cellsOf f.type)
    | _ => false
/-- An int of 64 bits. -/
def is64 (z : Int) : Prop := -9223372036854775808 ≤ z ∧ z ≤ 9223372036854775807
theorem flat_cells : ∀ (n : Nat) (t : TypeId), flatB P n t = true → ∀ (base : Nat) (spare : Nat → Bool) (held : Bool) (fuel : Nat) (cs : List Value) (x : DataW H × List MemPlace), DataW.trod enc P w base spare held fuel t cs = some x → ∀ i, i < P.cellsOf t → ∃ z, cs[i]? = some (.int .i64 z) ∧ is64 z
  | 0, _, h => by simp [flatB] at h
  | n + 1, t, h => by
    intro base spare held fuel cs x hx i hi
    unfold flatB at h
    split at h
    · next k hk =>
      rw [Bool.and_eq_true] at h
      have e1 := of_decide_eq_true h.1
      have e2 := of_decide_eq_true h.2
      subst e1
      obtain ⟨z, rfl, _, hw⟩ := DataW.trod_int hk hx
      have : i = 0 := by omega
      subst this
      exact ⟨z, rfl, bounds_i64 hw⟩
    · next fs hs =>
      rw [Bool.and_eq_true] at h
      obtain ⟨h1, h2⟩ := h
      obtain ⟨xs, n', _, _, hcl, hxl, hg⟩ := DataW.trod_struct hs hx
      have h3 := List.all_eq_true.1 h2 i (List.mem_range.2 hi)
      rw [Array.any_eq_true] at h3
      obtain ⟨j, hj, h3⟩ := h3
      have h4 := of_decide_eq_true h3
      have h5 := hg j fs[j] (Array.getElem?_eq_getElem hj)
      rw [List.getElem?_eq_getElem (by omega)] at h5
      have h6 : flatB P n fs[j].type = true := by
        rw [Array.all_eq_true] at h1
        exact h1 j hj
      obtain ⟨z, hz, hb⟩ := flat_cells n _ h6 _ _ _ _ _ _ h5 (i - fs[j].offset) (by omega)
      refine ⟨z, ?_, hb⟩
      rw [List.getElem?_take, if_pos (by omega), List.getElem?_drop] at hz
      rw [← hz]
      congr 1
      omega
    · cases h
/-- A slice of such structs. -/
theorem open_flat {r : Reach} {b0 n : Nat} {t e : TypeId} {v : Value} {d : DataW H} {p : List MemPlace} (ht : P.underlying t = some (.slice e)) (hf : flatB P n e = true) (hpos : 0 < P.cellsOf e) (hv : Value.okWide P w r b0 t v) (h : DataW.Trod enc P w 0 (fun _ => true) true t v d p) :
    ∃ (q : Option Addr) (len cap : Nat) (G : Nat → Nat → Int), v = .slice q len cap ∧ (q = none → cap = 0) ∧ len ≤ cap ∧ len ≤ 9223372036854775807 ∧ (∀ k j, is64 (G k j)) ∧ ∀ k, k < len → ∃ g o, q = some ⟨g, o, none⟩ ∧ g < w.heap.size ∧ ∀ j, j < P.cellsOf e → w.cell? ⟨g, o + k * P.cellsOf e + j, none⟩ = some (.int .i64 (G k j)) := by
  obtain ⟨a0, len, cap, rfl⟩ := okWide_slice ht hv
  obtain ⟨fuel, hfu⟩ := h
  rcases open_slice ht hfu with ⟨hcs, _⟩ | ⟨a, len', cap', m, n', D, Pl, hcs, _, hl, hm, hmm, _, hel⟩
  · simp [Value.cells] at hcs
    obtain ⟨rfl, rfl, rfl⟩ := hcs
    exact ⟨none, 0, 0, fun _ _ => 0, rfl, fun _ => rfl, by omega, by omega, fun _ _ => (show is64 0 from ⟨by decide, by decide⟩), fun k hk => absurd hk (by omega)⟩
  · simp [Value.cells] at hcs
    obtain ⟨rfl, rfl, rfl⟩ := hcs
    simp only [if_true] at hmm
    have key : ∀ k, ∀ j, ∃ z : Int, is64 z ∧ (k < len → j < P.cellsOf e → w.cell? ((a.add (k * P.cellsOf e)).add j) = some (.int .i64 z)) := fun k j => by
      by_cases hk : k < len ∧ j < P.cellsOf e
      · obtain ⟨cs', hc, ht'⟩ := hel k (by omega)
        obtain ⟨_, hcl, hat⟩ := World.cells?_some hc
        obtain ⟨z, hz, hb⟩ := flat_cells n e hf _ _ _ _ _ _ ht' j hk.2
        exact ⟨z, hb, fun _ _ => (hat j hk.2).trans hz⟩
      · exact ⟨0, ⟨by decide, by decide⟩, fun h1 h2 => absurd ⟨h1, h2⟩ hk⟩
    have hG : ∃ G : Nat → Nat → Int, ∀ k j, is64 (G k j) ∧ (k < len → j < P.cellsOf e → w.cell? ((a.add (k * P.cellsOf e)).add j) = some (.int .i64 (G k j))) := by
      obtain ⟨G, hG⟩ := Classical.axiomOfChoice fun k => Classical.axiomOfChoice (key k)
      exact ⟨G, hG⟩
    obtain ⟨G, hG⟩ := hG
    refine ⟨some a, len, cap, G, rfl, (fun e => by cases e), hl, by simp only [maxLen] at hm; omega, fun k j => (hG k j).1, fun k hk => ?_⟩
    obtain ⟨b, off, spot⟩ := a
    have h0 := (hG k 0).2 hk hpos
    have hspot : spot = none := by
      have h9 := World.cell?_spot ((hG 0 0).2 (by omega) hpos)
      simpa [Addr.add] using h9
    subst hspot
    refine ⟨b, off, rfl, ?_, fun j hj => ?_⟩
    · rw [add_plain, add_plain] at h0
      exact World.block_lt_of_cell? w _ h0
    · have := (hG k j).2 hk hj
      rwa [add_plain, add_plain] at this
/-- Such a struct by value. -/
theorem open_flat1 {r : Reach} {b0 n : Nat} {t : TypeId} {v : Value} {d : DataW H} {p : List MemPlace} {base : Nat} {spare : Nat → Bool} {held : Bool} {fs : Array Field} (hs : P.underlying t = some (.struct fs)) (hf : flatB P n t = true) (hv : Value.okWide P w r b0 t v) (h : DataW.Trod enc P w base spare held t v d p) :
    ∃ G : Nat → Int, (∀ j, is64 (G j)) ∧ v = .agg (((List.range (P.cellsOf t)).map fun j => Value.int .i64 (G j)).toArray) := by
  obtain ⟨cs, rfl, hsz⟩ := okWide_struct hs hv
  obtain ⟨fuel, hfu⟩ := h
  have key : ∀ j, ∃ z : Int, is64 z ∧ (j < P.cellsOf t → cs[j]? = some (.int .i64 z)) := fun j => by
    by_cases hj : j < P.cellsOf t
    · obtain ⟨z, hz, hb⟩ := flat_cells n t hf _ _ _ _ _ _ hfu j hj
      exact ⟨z, hb, fun _ => by simpa [Value.cells] using hz⟩
    · exact ⟨0, ⟨by decide, by decide⟩, fun h => absurd h hj⟩
  obtain ⟨G, hG⟩ := Classical.axiomOfChoice key
  refine ⟨G, fun j => (hG j).1, ?_⟩
  congr 1
  apply Array.ext_getElem?
  intro j
  by_cases hj : j < P.cellsOf t
  · rw [(hG j).2 hj]
    simp [hj]
  · rw [Array.getElem?_eq_none (by rw [hsz]; omega), Array.getElem?_eq_none (by simp; omega)]
end
end Go.Proofs.YtjknnbeemcpppaaDoor.F
