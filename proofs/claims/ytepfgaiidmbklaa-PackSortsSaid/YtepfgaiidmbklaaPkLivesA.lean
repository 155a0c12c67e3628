/-
  A contract for the statements' own first question, lives: it is answered with true. Not a statement of the seat.
-/
import Derived.Test.YtepfgaiidmbklaaPkRef
namespace Go.Proofs.Ytepfgaiidmbklaa.Pk
open Go.ChangeShapes Go.WideShapes Go.ChangeAt Go.RowKit Base Go.Shelf Go.Lib Go.Sort
theorem keep_block {W w1 : World} (hb : Below W.heap.size W w1) {g : Nat} {o : Obj} (h : W.heap[g]? = some o) : w1.heap[g]? = some o := (hb.block g (heap_lt h)).trans h
theorem cells4 {w : World} {g : Nat} {t : TypeId} {a b c d : Value} (h : w.heap[g]? = some (.cells #[a, b, c, d] t)) :
    (w.cell? ⟨g, 0, none⟩ = some a ∧ w.cell? ⟨g, 1, none⟩ = some b ∧ w.cell? ⟨g, 2, none⟩ = some c ∧ w.cell? ⟨g, 3, none⟩ = some d) := (blk4 (Below.refl _ w) (heap_lt h) h).1
theorem cells3 {w : World} {g : Nat} {t : TypeId} {a b c : Value} (h : w.heap[g]? = some (.cells #[a, b, c] t)) :
    (w.cell? ⟨g, 0, none⟩ = some a ∧ w.cell? ⟨g, 1, none⟩ = some b ∧ w.cell? ⟨g, 2, none⟩ = some c) := (blk3 (Below.refl _ w) (heap_lt h) h).1
theorem edge_1 (w : World) : Calls Try.prog 8 #[.agg #[.int .i64 1, .int .i64 2, .int .i64 2, .int .i64 3]] w fun e w' => e = .returned (.tuple #[.int .u64 6597072912386, .int .i64 0]) ∧ Below w.heap.size w w' := by
  have h := edge_ok 1 2 2 3 w (by decide)
  rwa [show eNum 1 2 2 3 = 6597072912386 from by decide] at h
theorem unedge_1 (w : World) : Calls Try.prog 11 #[.int .u64 6597072912386] w fun e w' => e = .returned (.tuple #[.agg #[.int .i64 1, .int .i64 2, .int .i64 2, .int .i64 3], .int .i64 0]) ∧ Below w.heap.size w w' :=
  unedge_ok 6597072912386 w (by decide) (by decide) (by decide)
theorem unedge_7 (w : World) : Calls Try.prog 11 #[.int .u64 7] w fun e w' => e = .returned (.tuple #[.agg #[.int .i64 0, .int .i64 0, .int .i64 0, .int .i64 0], .int .i64 5]) ∧ Below w.heap.size w w' :=
  unedge_bad 7 w (by decide) (by decide) (by decide)
theorem version_1 (w : World) : Calls Try.prog 14 #[.agg #[.int .i64 2, .int .i64 1, .int .i64 3]] w fun e w' => e = .returned (.tuple #[.int .u64 8589938691, .int .i64 0]) ∧ Below w.heap.size w w' := by
  have h := version_ok 2 1 3 w (by decide)
  rwa [show vNum 2 1 3 = 8589938691 from by decide] at h
theorem unversion_1 (w : World) : Calls Try.prog 17 #[.int .u64 8589938691] w fun e w' => e = .returned (.tuple #[.agg #[.int .i64 2, .int .i64 1, .int .i64 3], .int .i64 0]) ∧ Below w.heap.size w w' :=
  unversion_ok 8589938691 w (by decide) (by decide) (by decide)
theorem version_2 (w : World) : Calls Try.prog 14 #[.agg #[.int .i64 0, .int .i64 1, .int .i64 0]] w fun e w' => e = .returned (.tuple #[.int .u64 4096, .int .i64 0]) ∧ Below w.heap.size w w' := by
  have h := version_ok 0 1 0 w (by decide)
  rwa [show vNum 0 1 0 = 4096 from by decide] at h
theorem unversion_far1 (w : World) : Calls Try.prog 17 #[.int .u64 9223372036854775808] w fun e w' => e = .returned (.tuple #[.agg #[.int .i64 0, .int .i64 0, .int .i64 0], .int .i64 5]) ∧ Below w.heap.size w w' :=
  unversion_far 9223372036854775808 w (by decide) (by decide) (by decide)
theorem eq_1 (w : World) : (binOp .eql 23 (.agg #[.int .i64 1, .int .i64 2, .int .i64 2, .int .i64 3]) (.agg #[.int .i64 1, .int .i64 2, .int .i64 2, .int .i64 3])).run Try.prog w = .ok (.bool true) w := by
  have h := eqE (1, 2, 2, 3) (1, 2, 2, 3) w
  rwa [decide_eq_true rfl] at h
theorem eqV (a b c d e f : Int) (w : World) : (binOp .eql 37 (.agg #[.int .i64 a, .int .i64 b, .int .i64 c]) (.agg #[.int .i64 d, .int .i64 e, .int .i64 f])).run Try.prog w = .ok (.bool (decide (a = d ∧ b = e ∧ c = f))) w := by
  have u3 := Try.underlying3
  have a3 := Try.isAgg3
  have z3 := Try.sizeOf3
  have hS : Try.prog.underlying 37 = some (.struct (Try.prog.fieldsOf 37)) := by kernel_rfl
  have hp : Try.prog.stoodInHeld 37 = false := by kernel_rfl
  rw [run_eql_struct, show (10000 : Nat) = 9999 + 1 from rfl, run_equalIn_agg w 9999 37 _ _ hS hp]
  simp only [Program.fieldsOf, Try.underlying37]
  go_simp
  by_cases h1 : a = d <;> by_cases h2 : b = e <;> by_cases h3 : c = f <;> simp [h1, h2, h3]
theorem eq_2 (w : World) : (binOp .eql 37 (.agg #[.int .i64 2, .int .i64 1, .int .i64 3]) (.agg #[.int .i64 2, .int .i64 1, .int .i64 3])).run Try.prog w = .ok (.bool true) w := by
  have h := eqV 2 1 3 2 1 3 w
  rwa [decide_eq_true (by decide)] at h
theorem less_1 (w : World) : Calls Try.prog 22 #[.agg #[.int .i64 1, .int .i64 2, .int .i64 2, .int .i64 3], .agg #[.int .i64 1, .int .i64 0, .int .i64 3, .int .i64 0]] w fun e w' => e = .returned (.bool true) ∧ Below w.heap.size w w' :=
  (less_any (1, 2, 2, 3) (1, 0, 3, 0) w).mono fun _ _ h => ⟨h.1, h.2.below⟩
theorem less_2 (w : World) : Calls Try.prog 22 #[.agg #[.int .i64 1, .int .i64 2, .int .i64 2, .int .i64 3], .agg #[.int .i64 1, .int .i64 2, .int .i64 2, .int .i64 3]] w fun e w' => e = .returned (.bool false) ∧ Below w.heap.size w w' :=
  (less_any (1, 2, 2, 3) (1, 2, 2, 3) w).mono fun _ _ h => ⟨h.1, h.2.below⟩
theorem sorted_two : (sortedE #[(1, 2, 2, 3), (1, 2, 2, 3)]).length = 1 := by
  have h : ((#[(1, 2, 2, 3), (1, 2, 2, 3)] : Array E).toList.mergeSort fun x y => !(ltOf cfE) y x) = [(1, 2, 2, 3), (1, 2, 2, 3)] := by
    have hp := List.mergeSort_perm (#[(1, 2, 2, 3), (1, 2, 2, 3)] : Array E).toList (fun x y => !(ltOf cfE) y x)
    exact (List.perm_replicate (a := ((1, 2, 2, 3) : E)) (n := 2)).1 hp
  unfold sortedE
  rw [h]
  decide
def pairCells : Array Value := #[.int .i64 1, .int .i64 2, .int .i64 2, .int .i64 3, .int .i64 1, .int .i64 2, .int .i64 2, .int .i64 3]
theorem sort_1 (g c : Nat) (w : World) (h : w.heap[g]? = some (.cells pairCells 23)) : Calls Try.prog 20 #[.slice (some ⟨g, 0, none⟩) 2 c] w fun e w' => (∃ g' c', e = .returned (.slice (some ⟨g', 0, none⟩) 1 c')) ∧ Below w.heap.size w w' := by
  have hs := sort_any g 0 c #[(1, 2, 2, 3), (1, 2, 2, 3)] w (by decide) (by
    intro j u hu
    have hf : (flatK encE 4 #[(1, 2, 2, 3), (1, 2, 2, 3)]).toList = pairCells.toList := by kernel_rfl
    rw [hf] at hu
    simp only [World.cell?, h, Nat.zero_add]
    simpa using hu)
  exact hs.mono fun e w' hh => by
    obtain ⟨g', c', he, _, _, hb⟩ := hh
    rw [sorted_two] at he
    exact ⟨⟨g', c', he⟩, hb⟩
end Go.Proofs.Ytepfgaiidmbklaa.Pk
