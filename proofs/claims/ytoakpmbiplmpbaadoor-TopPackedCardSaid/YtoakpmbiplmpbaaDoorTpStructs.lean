/-
  A slice of structs, or of edges, that came in: how its fields read. Not a statement of the seat.
-/
import Derived.Test.YtoakpmbiplmpbaaDoorTpEds
import Derived.Deep.Slices
import Derived.Deep.Fields
import Derived.ChangeSame
import Derived.OpenShut
import Derived.ProofKit
namespace Go.Proofs.YtoakpmbiplmpbaaDoor.Pk
open Go.ChangeShapes Go.WideShapes Go.ChangeAt Go.RowKit Base
section
open Go.Deep
variable {H : Type} {enc : TypeId × Value → H} {P : Program} {w : World}
/-- A slice of structs that came in, each field of one cell: where its fields lie, and that each reads. -/
theorem open_structs {r : Reach} {b0 : Nat} {t e : TypeId} {fs : Array Field} {v : Value} {d : DataW H} {p : List MemPlace} (ht : P.underlying t = some (.slice e)) (he : P.underlying e = some (.struct fs)) (hone : oneCellFields P fs = true)
    (hC : P.cellsOf e = fs.size) (hpos : 0 < fs.size) (hv : Value.okWide P w r b0 t v) (h : DataW.Trod enc P w 0 (fun _ => true) true t v d p) :
    ∃ (a0 : Option Addr) (len cap : Nat), v = .slice a0 len cap ∧ len ≤ 9223372036854775807 ∧ ∀ i, i < len → ∃ g o, a0 = some ⟨g, o, none⟩ ∧ g < w.heap.size ∧
      ∀ (j : Nat) (f : Field), fs[j]? = some f → ∃ (u : Value) (y : DataW H × List MemPlace) (n : Nat), w.cell? ⟨g, o + i * fs.size + j, none⟩ = some u ∧ DataW.trod enc P w 0 (fun _ => true) true n f.type [u] = some y := by
  obtain ⟨a0, len, cap, rfl⟩ := okWide_slice ht hv
  obtain ⟨fuel, hf⟩ := h
  refine ⟨a0, len, cap, rfl, ?_⟩
  rcases open_slice ht hf with ⟨hcs, _⟩ | ⟨a, len', cap', m, n, D, Pl, hcs, _, hl, hm, hmm, _, hel⟩
  · simp [Value.cells] at hcs
    obtain ⟨rfl, rfl, rfl⟩ := hcs
    exact ⟨by omega, fun i hi => absurd hi (by omega)⟩
  · simp [Value.cells] at hcs
    obtain ⟨rfl, rfl, rfl⟩ := hcs
    simp only [if_true] at hmm
    refine ⟨by simp only [maxLen] at hm; omega, fun i hi => ?_⟩
    obtain ⟨cs', hc, ht'⟩ := hel i (by omega)
    obtain ⟨_, hcl, hat⟩ := World.cells?_some hc
    obtain ⟨xs, n', _, _, _, hxl, hg⟩ := DataW.trod_struct he ht'
    rw [hC] at hcl hat
    have hcell : ∀ j, j < fs.size → ∃ u, cs'[j]? = some u ∧ w.cell? ((a.add (i * fs.size)).add j) = some u := fun j hj => by
      have h1 : cs'[j]? = some (cs'[j]'(by omega)) := List.getElem?_eq_getElem (by omega)
      exact ⟨_, h1, (hat j hj).trans h1⟩
    obtain ⟨b, off, spot⟩ := a
    have hspot : spot = none := by
      obtain ⟨cs0, hc0, _⟩ := hel 0 (by omega)
      obtain ⟨_, hcl0, hat0⟩ := World.cells?_some hc0
      rw [hC] at hcl0 hat0
      have hu := (hat0 0 hpos).trans (List.getElem?_eq_getElem (by omega))
      simpa [Addr.add] using World.cell?_spot hu
    subst hspot
    have hadd : ∀ j, (Addr.add (Addr.add ⟨b, off, none⟩ (i * fs.size)) j) = ⟨b, off + i * fs.size + j, none⟩ := fun j => by rw [add_plain, add_plain]
    refine ⟨b, off, rfl, ?_, fun j f hj => ?_⟩
    · obtain ⟨u, _, hu⟩ := hcell 0 hpos
      rw [hadd] at hu
      exact World.block_lt_of_cell? w _ hu
    · have hjl : j < fs.size := (Array.getElem?_eq_some_iff.1 hj).1
      obtain ⟨u, hu, hcu⟩ := hcell j hjl
      obtain ⟨ho, hk⟩ := hone_of hone j f hj
      have h1 := hg j f hj
      have h2 : (cs'.drop j).take 1 = [u] := by
        obtain ⟨hlt, hh⟩ := List.getElem?_eq_some_iff.1 hu
        rw [List.drop_eq_getElem_cons hlt, hh]; rfl
      rw [ho, hk, h2, List.getElem?_eq_getElem (by omega)] at h1
      rw [hadd] at hcu
      exact ⟨u, _, n', hcu, h1⟩
end
section
variable {H : Type} {enc : TypeId × Value → H} {w : World}
set_option maxRecDepth 100000 in
theorem open_edges {r : Reach} {b0 : Nat} {v : Value} {d : DataW H} {p : List MemPlace} (hv : Value.okWide Tryd.prog w r b0 64 v) (h : DataW.Trod enc Tryd.prog w 0 (fun _ => true) true 64 v d p) : ∃ xs, Eds w v xs := by
  obtain ⟨a0, len, cap, rfl, hl, hi⟩ := open_structs Tryd.underlying64 Tryd.underlying67 (by kernel_rfl) (by kernel_rfl) (by decide) hv h
  have hx : ∀ k, ∃ q : E, k < len → ∃ g o, a0 = some ⟨g, o, none⟩ ∧ g < w.heap.size ∧ w.cell? ⟨g, o + k * 4, none⟩ = some (.int .i64 q.1) ∧ w.cell? ⟨g, o + k * 4 + 1, none⟩ = some (.int .i64 q.2.1) ∧
      w.cell? ⟨g, o + k * 4 + 2, none⟩ = some (.int .i64 q.2.2.1) ∧ w.cell? ⟨g, o + k * 4 + 3, none⟩ = some (.int .i64 q.2.2.2) := fun k => by
    by_cases hk : k < len
    · obtain ⟨g, o, ha, hg, hc⟩ := hi k hk
      obtain ⟨u0, y0, n0, hc0, ht0⟩ := hc 0 _ rfl
      obtain ⟨u1, y1, n1, hc1, ht1⟩ := hc 1 _ rfl
      obtain ⟨u2, y2, n2, hc2, ht2⟩ := hc 2 _ rfl
      obtain ⟨u3, y3, n3, hc3, ht3⟩ := hc 3 _ rfl
      obtain ⟨z0, hz0, _, _⟩ := DataW.trod_int Tryd.underlying3 ht0
      obtain ⟨z1, hz1, _, _⟩ := DataW.trod_int Tryd.underlying3 ht1
      obtain ⟨z2, hz2, _, _⟩ := DataW.trod_int Tryd.underlying3 ht2
      obtain ⟨z3, hz3, _, _⟩ := DataW.trod_int Tryd.underlying3 ht3
      obtain rfl := (List.cons.inj hz0).1
      obtain rfl := (List.cons.inj hz1).1
      obtain rfl := (List.cons.inj hz2).1
      obtain rfl := (List.cons.inj hz3).1
      exact ⟨(z0, z1, z2, z3), fun _ => ⟨g, o, ha, hg, hc0, hc1, hc2, hc3⟩⟩
    · exact ⟨zE, fun h => absurd h hk⟩
  obtain ⟨f, hf⟩ := Classical.axiomOfChoice hx
  have hlen : ((List.range len).map f).length = len := by simp
  have hget : ∀ k, k < len → ((List.range len).map f).getD k zE = f k := fun k hk => by simp [List.getD_eq_getElem?_getD, hk]
  refine ⟨(List.range len).map f, ?_⟩
  by_cases h0 : len = 0
  · subst h0
    exact .inl ⟨⟨_, _, rfl⟩, rfl⟩
  · obtain ⟨g, o, ha, hg, _⟩ := hf 0 (by omega)
    subst ha
    refine .inr ⟨g, o, cap, by rw [hlen], hg, by rw [hlen]; exact hl, fun k hk => ?_⟩
    rw [hlen] at hk
    rw [hget k hk]
    obtain ⟨g', o', ha', _, c0, c1, c2, c3⟩ := hf k hk
    simp only [Option.some.injEq, Addr.mk.injEq, and_true] at ha'
    obtain ⟨rfl, rfl⟩ := ha'
    exact ⟨c0, c1, c2, c3⟩
end
end Go.Proofs.YtoakpmbiplmpbaaDoor.Pk
