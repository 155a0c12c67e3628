/-
  Deeds to queues and stacks: how a slice of them reads, a deed's box. Not a statement of the seat.
-/
import Derived.Test.YtpmimngngehmlaaOpenS
namespace Go.Proofs.Ytpmimngngehmlaa.F
open Go.ChangeShapes Go.WideShapes Go.ChangeAt Go.RowKit Base
/-- The slice v holds the deeds zs. -/
def Ds8 (w : World) (v : Value) (zs : List (Int × Bool × Int)) : Prop :=
  ∃ p c, v = .slice p zs.length c ∧ zs.length ≤ 9223372036854775807 ∧ ∀ k, k < zs.length → ∃ g o, p = some ⟨g, o, none⟩ ∧ g < w.heap.size ∧ ∃ K S X, zs.getD k (0, false, 0) = (K, S, X) ∧
    w.cell? ⟨g, o + k * 3, none⟩ = some (.int .i64 K) ∧ w.cell? ⟨g, o + k * 3 + 1, none⟩ = some (.bool S) ∧ w.cell? ⟨g, o + k * 3 + 2, none⟩ = some (.int .i64 X)
def box8 (K : Int) (S : Bool) (X : Int) : Obj := .cells #[.int .i64 K, .bool S, .int .i64 X] 85
theorem cells8 {w : World} {g : Nat} {K X : Int} {S : Bool} (h : w.heap[g]? = some (box8 K S X)) : g < w.heap.size ∧ w.cell? ⟨g, 0, none⟩ = some (.int .i64 K) ∧ w.cell? ⟨g, 1, none⟩ = some (.bool S) ∧ w.cell? ⟨g, 2, none⟩ = some (.int .i64 X) := by
  refine ⟨heap_lt h, ?_⟩
  unfold box8 at h
  simp [World.cell?, h]
section
variable {H : Type} {enc : TypeId × Value → H} {w : World}
set_option maxRecDepth 100000 in
theorem open_ds8s {r : Reach} {b0 : Nat} {v : Value} {d : DataW H} {p : List MemPlace} (hv : Value.okWide Try.prog w r b0 79 v) (h : DataW.Trod enc Try.prog w 0 (fun _ => true) true 79 v d p) : ∃ zs, Ds8 w v zs := by
  obtain ⟨a0, len, cap, rfl, hl, hi⟩ := open_structs Try.underlying79 Try.underlying85 (by kernel_rfl) (by kernel_rfl) (by decide) hv h
  have hx : ∀ k, ∃ q : Int × Bool × Int, k < len → ∃ g o, a0 = some ⟨g, o, none⟩ ∧ g < w.heap.size ∧ w.cell? ⟨g, o + k * 3, none⟩ = some (.int .i64 q.1) ∧ w.cell? ⟨g, o + k * 3 + 1, none⟩ = some (.bool q.2.1) ∧
      w.cell? ⟨g, o + k * 3 + 2, none⟩ = some (.int .i64 q.2.2) := fun k => by
    by_cases hk : k < len
    · obtain ⟨g, o, ha, hg, hc⟩ := hi k hk
      obtain ⟨u0, y0, n0, hc0, ht0⟩ := hc 0 _ rfl
      obtain ⟨u1, y1, n1, hc1, ht1⟩ := hc 1 _ rfl
      obtain ⟨u2, y2, n2, hc2, ht2⟩ := hc 2 _ rfl
      obtain ⟨z0, hz0, _, _⟩ := DataW.trod_int Try.underlying3 ht0
      obtain ⟨z1, hz1, _⟩ := DataW.trod_bool Try.underlying4 ht1
      obtain ⟨z2, hz2, _, _⟩ := DataW.trod_int Try.underlying3 ht2
      obtain rfl := (List.cons.inj hz0).1
      obtain rfl := (List.cons.inj hz1).1
      obtain rfl := (List.cons.inj hz2).1
      exact ⟨(z0, z1, z2), fun _ => ⟨g, o, ha, hg, hc0, hc1, hc2⟩⟩
    · exact ⟨(0, false, 0), fun h => absurd h hk⟩
  obtain ⟨f, hf⟩ := Classical.axiomOfChoice hx
  have hlen : ((List.range len).map f).length = len := by simp
  refine ⟨(List.range len).map f, a0, cap, by rw [hlen], by rw [hlen]; exact hl, fun k hk => ?_⟩
  rw [hlen] at hk
  obtain ⟨g, o, ha, hg, c0, c1, c2⟩ := hf k hk
  refine ⟨g, o, ha, hg, (f k).1, (f k).2.1, (f k).2.2, ?_, c0, c1, c2⟩
  simp [List.getD_eq_getElem?_getD, hk]
end
end Go.Proofs.Ytpmimngngehmlaa.F
