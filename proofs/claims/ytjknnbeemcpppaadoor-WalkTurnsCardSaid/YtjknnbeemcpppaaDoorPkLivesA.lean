/-
  A contract for the statements' own first question, lives: it is answered with true. Not a statement of the seat.
-/
import Derived.Test.YtjknnbeemcpppaaDoorPkRef
namespace Go.Proofs.YtjknnbeemcpppaaDoor.Pk
open Go.ChangeShapes Go.WideShapes Go.ChangeAt Go.RowKit Base Go.Shelf Go.Lib Go.Sort
theorem keep_block {W w1 : World} (hb : Below W.heap.size W w1) {g : Nat} {o : Obj} (h : W.heap[g]? = some o) : w1.heap[g]? = some o := (hb.block g (heap_lt h)).trans h
theorem cells4 {w : World} {g : Nat} {t : TypeId} {a b c d : Value} (h : w.heap[g]? = some (.cells #[a, b, c, d] t)) :
    (w.cell? ⟨g, 0, none⟩ = some a ∧ w.cell? ⟨g, 1, none⟩ = some b ∧ w.cell? ⟨g, 2, none⟩ = some c ∧ w.cell? ⟨g, 3, none⟩ = some d) := (blk4 (Below.refl _ w) (heap_lt h) h).1
theorem cells3 {w : World} {g : Nat} {t : TypeId} {a b c : Value} (h : w.heap[g]? = some (.cells #[a, b, c] t)) :
    (w.cell? ⟨g, 0, none⟩ = some a ∧ w.cell? ⟨g, 1, none⟩ = some b ∧ w.cell? ⟨g, 2, none⟩ = some c) := (blk3 (Below.refl _ w) (heap_lt h) h).1
theorem eq_1 (w : World) : (binOp .eql 32 (.agg #[.int .i64 1, .int .i64 2, .int .i64 2, .int .i64 3]) (.agg #[.int .i64 1, .int .i64 2, .int .i64 2, .int .i64 3])).run Tryd.prog w = .ok (.bool true) w := by
  have h := eqE (1, 2, 2, 3) (1, 2, 2, 3) w
  rwa [decide_eq_true rfl] at h
theorem less_1 (w : World) : Calls Tryd.prog 40 #[.agg #[.int .i64 1, .int .i64 2, .int .i64 2, .int .i64 3], .agg #[.int .i64 1, .int .i64 0, .int .i64 3, .int .i64 0]] w fun e w' => e = .returned (.bool true) ∧ Below w.heap.size w w' :=
  (less_any (1, 2, 2, 3) (1, 0, 3, 0) w).mono fun _ _ h => ⟨h.1, h.2.below⟩
theorem less_2 (w : World) : Calls Tryd.prog 40 #[.agg #[.int .i64 1, .int .i64 2, .int .i64 2, .int .i64 3], .agg #[.int .i64 1, .int .i64 2, .int .i64 2, .int .i64 3]] w fun e w' => e = .returned (.bool false) ∧ Below w.heap.size w w' :=
  (less_any (1, 2, 2, 3) (1, 2, 2, 3) w).mono fun _ _ h => ⟨h.1, h.2.below⟩
theorem sorted_two : (sortedE #[(1, 2, 2, 3), (1, 2, 2, 3)]).length = 1 := by
  have h : ((#[(1, 2, 2, 3), (1, 2, 2, 3)] : Array E).toList.mergeSort fun x y => !(ltOf cfE) y x) = [(1, 2, 2, 3), (1, 2, 2, 3)] := by
    have hp := List.mergeSort_perm (#[(1, 2, 2, 3), (1, 2, 2, 3)] : Array E).toList (fun x y => !(ltOf cfE) y x)
    exact (List.perm_replicate (a := ((1, 2, 2, 3) : E)) (n := 2)).1 hp
  unfold sortedE
  rw [h]
  decide
def pairCells : Array Value := #[.int .i64 1, .int .i64 2, .int .i64 2, .int .i64 3, .int .i64 1, .int .i64 2, .int .i64 2, .int .i64 3]
theorem sort_1 (g c : Nat) (w : World) (h : w.heap[g]? = some (.cells pairCells 32)) : Calls Tryd.prog 21 #[.slice (some ⟨g, 0, none⟩) 2 c] w fun e w' => (∃ g' c', e = .returned (.slice (some ⟨g', 0, none⟩) 1 c')) ∧ Below w.heap.size w w' := by
  have hs := sort_any g 0 c #[(1, 2, 2, 3), (1, 2, 2, 3)] w (by decide) (by
    intro j u hu
    have hf : (flatK encE 4 #[(1, 2, 2, 3), (1, 2, 2, 3)]).toList = pairCells.toList := by kernel_rfl
    rw [hf] at hu
    simp only [World.cell?, h, Nat.zero_add]
    simpa using hu)
  exact hs.mono fun e w' hh => by
    obtain ⟨g', c', he, _, _, hb⟩ := hh
    rw [sorted_two] at he
    exact ⟨⟨g', c', he⟩, hb⟩
end Go.Proofs.YtjknnbeemcpppaaDoor.Pk
