/-
  Slices of structs that came in: how the fields of each read. Not a statement of the seat.
-/
import Derived.Test.YtphagkpnfbdncaaDoorOpenS
namespace Go.Proofs.YtphagkpnfbdncaaDoor.F
open Go.ChangeShapes Go.WideShapes Go.ChangeAt Go.RowKit Base
section
open Go.Deep
variable {H : Type} {enc : TypeId × Value → H} {P : Program} {w : World}
/-- A slice of structs that came in, each field of one cell: where its fields lie, and that each reads; out of its one cell. -/
theorem open_structs2 {t e : TypeId} {fs : Array Field} {u : Value} {n : Nat} {y : DataW H × List MemPlace} (ht : P.underlying t = some (.slice e)) (he : P.underlying e = some (.struct fs)) (hone : oneCellFields P fs = true)
    (hC : P.cellsOf e = fs.size) (hpos : 0 < fs.size) (h : DataW.trod enc P w 0 (fun _ => true) true n t [u] = some y) :
    ∃ (a0 : Option Addr) (len cap : Nat), u = .slice a0 len cap ∧ (a0 = none → cap = 0) ∧ len ≤ cap ∧ len ≤ 9223372036854775807 ∧ ∀ i, i < len → ∃ g o, a0 = some ⟨g, o, none⟩ ∧ g < w.heap.size ∧
      ∀ (j : Nat) (f : Field), fs[j]? = some f → ∃ (u : Value) (y : DataW H × List MemPlace) (n : Nat), w.cell? ⟨g, o + i * fs.size + j, none⟩ = some u ∧ DataW.trod enc P w 0 (fun _ => true) true n f.type [u] = some y := by
  rcases open_slice ht h with ⟨hcs, _⟩ | ⟨a, len, cap, m, n, D, Pl, hcs, _, hl, hm, hmm, _, hel⟩
  · obtain rfl := (List.cons.inj hcs).1
    exact ⟨none, 0, 0, rfl, fun _ => rfl, by omega, by omega, fun i hi => absurd hi (by omega)⟩
  · obtain rfl := (List.cons.inj hcs).1
    simp only [if_true] at hmm
    refine ⟨some a, len, cap, rfl, (fun e => by cases e), hl, by simp only [maxLen] at hm; omega, fun i hi => ?_⟩
    obtain ⟨cs', hc, ht'⟩ := hel i (by omega)
    obtain ⟨_, hcl, hat⟩ := World.cells?_some hc
    obtain ⟨xs, n', _, _, _, hxl, hg⟩ := DataW.trod_struct he ht'
    rw [hC] at hcl hat
    have hcell : ∀ j, j < fs.size → ∃ u, cs'[j]? = some u ∧ w.cell? ((a.add (i * fs.size)).add j) = some u := fun j hj => by
      have h1 : cs'[j]? = some (cs'[j]'(by omega)) := List.getElem?_eq_getElem (by omega)
      exact ⟨_, h1, (hat j hj).trans h1⟩
    obtain ⟨b, off, spot⟩ := a
    have hspot : spot = none := by
      obtain ⟨cs0, hc0, _⟩ := hel 0 (by omega)
      obtain ⟨_, hcl0, hat0⟩ := World.cells?_some hc0
      rw [hC] at hcl0 hat0
      have hu := (hat0 0 hpos).trans (List.getElem?_eq_getElem (by omega))
      simpa [Addr.add] using World.cell?_spot hu
    subst hspot
    have hadd : ∀ j, (Addr.add (Addr.add ⟨b, off, none⟩ (i * fs.size)) j) = ⟨b, off + i * fs.size + j, none⟩ := fun j => by rw [add_plain, add_plain]
    refine ⟨b, off, rfl, ?_, fun j f hj => ?_⟩
    · obtain ⟨u, _, hu⟩ := hcell 0 hpos
      rw [hadd] at hu
      exact World.block_lt_of_cell? w _ hu
    · have hjl : j < fs.size := (Array.getElem?_eq_some_iff.1 hj).1
      obtain ⟨u, hu, hcu⟩ := hcell j hjl
      obtain ⟨ho, hk⟩ := hone_of hone j f hj
      have h1 := hg j f hj
      have h2 : (cs'.drop j).take 1 = [u] := by
        obtain ⟨hlt, hh⟩ := List.getElem?_eq_some_iff.1 hu
        rw [List.drop_eq_getElem_cons hlt, hh]; rfl
      rw [ho, hk, h2, List.getElem?_eq_getElem (by omega)] at h1
      rw [hadd] at hcu
      exact ⟨u, _, n', hcu, h1⟩
end
end Go.Proofs.YtphagkpnfbdncaaDoor.F
