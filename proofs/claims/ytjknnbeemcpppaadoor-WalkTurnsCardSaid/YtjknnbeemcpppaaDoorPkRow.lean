/-
  Plain facts on rows of edges: cells, stores, what Compact leaves. Not a statement of the seat.
-/
import Derived.Test.YtjknnbeemcpppaaDoorPkSort
import Derived.Lib.SlicesCompact
import Derived.Deep.LoopGhost
import Derived.Laws.StructEq
namespace Go.Proofs.YtjknnbeemcpppaaDoor.Pk
open Go.ChangeShapes Go.WideShapes Go.ChangeAt Go.RowKit Base Go.Shelf Go.Lib Go.Sort
theorem eqE (x y : E) (w : World) : (binOp .eql 32 (.agg #[.int .i64 x.1, .int .i64 x.2.1, .int .i64 x.2.2.1, .int .i64 x.2.2.2]) (.agg #[.int .i64 y.1, .int .i64 y.2.1, .int .i64 y.2.2.1, .int .i64 y.2.2.2])).run Tryd.prog w = .ok (.bool (decide (x = y))) w := by
  have u3 := Tryd.underlying3
  have a3 := Tryd.isAgg3
  have z3 := Tryd.sizeOf3
  have hS : Tryd.prog.underlying 32 = some (.struct (Tryd.prog.fieldsOf 32)) := by kernel_rfl
  have hp : Tryd.prog.stoodInHeld 32 = false := by kernel_rfl
  rw [run_eql_struct, show (10000 : Nat) = 9999 + 1 from rfl, run_equalIn_agg w 9999 32 _ _ hS hp]
  simp only [Program.fieldsOf, Tryd.underlying32]
  go_simp
  obtain ⟨x1, x2, x3, x4⟩ := x
  obtain ⟨y1, y2, y3, y4⟩ := y
  simp only [Prod.mk.injEq]
  by_cases h1 : x1 = y1 <;> by_cases h2 : x2 = y2 <;> by_cases h3 : x3 = y3 <;> by_cases h4 : x4 = y4 <;> simp [h1, h2, h3, h4]
theorem neE (x y : E) (w : World) : (binOp .neq 32 (.agg #[.int .i64 x.1, .int .i64 x.2.1, .int .i64 x.2.2.1, .int .i64 x.2.2.2]) (.agg #[.int .i64 y.1, .int .i64 y.2.1, .int .i64 y.2.2.1, .int .i64 y.2.2.2])).run Tryd.prog w = .ok (.bool (!decide (x = y))) w := by
  have u3 := Tryd.underlying3
  have a3 := Tryd.isAgg3
  have z3 := Tryd.sizeOf3
  have hS : Tryd.prog.underlying 32 = some (.struct (Tryd.prog.fieldsOf 32)) := by kernel_rfl
  have hp : Tryd.prog.stoodInHeld 32 = false := by kernel_rfl
  rw [run_neq_struct, show (10000 : Nat) = 9999 + 1 from rfl, run_equalIn_agg w 9999 32 _ _ hS hp]
  simp only [Program.fieldsOf, Tryd.underlying32]
  go_simp
  obtain ⟨x1, x2, x3, x4⟩ := x
  obtain ⟨y1, y2, y3, y4⟩ := y
  simp only [Prod.mk.injEq]
  by_cases h1 : x1 = y1 <;> by_cases h2 : x2 = y2 <;> by_cases h3 : x3 = y3 <;> by_cases h4 : x4 = y4 <;> simp [h1, h2, h3, h4]
theorem cellsE {w : World} {blk off : Nat} {d : Array E} (h : HoldsK encE 4 w blk off d) {i : Nat} (hi : i < d.size) :
    (w.cell? ⟨blk, off + i * 4, none⟩ = some (.int .i64 d[i]!.1) ∧ w.cell? ⟨blk, off + i * 4 + 1, none⟩ = some (.int .i64 d[i]!.2.1) ∧ w.cell? ⟨blk, off + i * 4 + 2, none⟩ = some (.int .i64 d[i]!.2.2.1) ∧ w.cell? ⟨blk, off + i * 4 + 3, none⟩ = some (.int .i64 d[i]!.2.2.2)) ∧
    (w.frozen? ⟨blk, off + i * 4, none⟩ = false ∧ w.frozen? ⟨blk, off + i * 4 + 1, none⟩ = false ∧ w.frozen? ⟨blk, off + i * 4 + 2, none⟩ = false ∧ w.frozen? ⟨blk, off + i * 4 + 3, none⟩ = false) := by
  have h0 := h.cell (c := 0) hi (by omega)
  have h1 := h.cell (c := 1) hi (by omega)
  have h2 := h.cell (c := 2) hi (by omega)
  have h3 := h.cell (c := 3) hi (by omega)
  exact ⟨⟨h0.1, h1.1, h2.1, h3.1⟩, h0.2, h1.2, h2.2, h3.2⟩
theorem setMany_one (d : Array E) (i : Nat) (x : E) (hi : i < d.size) : setMany (flatK encE 4 d) (i * 4) (encE x) = flatK encE 4 (d.setIfInBounds i x) := by
  refine ext_get! (by simp) fun t ht => ?_
  have ht' : t < d.size * 4 := by simpa using ht
  rw [get_setMany _ _ _ t (by simpa using ht'), get_flatK _ _ _ t ht', get_flatK _ _ _ t (by simpa using ht')]
  have hlen : (encE x).length = 4 := rfl
  rw [hlen]
  by_cases a : t / 4 = i
  · rw [if_pos (by omega), a, getElem!_set_same d i x hi, show t - i * 4 = t % 4 by omega]
  · rw [if_neg (by omega), getElem!_set_other d i (t / 4) x a]
theorem store_world4 {w wr : World} {n q blk off : Nat} {dk : Array E} {i : Nat} (hi : i < dk.size) (hwr : wr = putRowK encE 4 (Sort.ahead w n) blk off dk) (x : E) :
    ((((wr.drewN q).setCell ⟨blk, off + i * 4, none⟩ (.int .i64 x.1)).setCell ⟨blk, off + i * 4 + 1, none⟩ (.int .i64 x.2.1)).setCell ⟨blk, off + i * 4 + 2, none⟩ (.int .i64 x.2.2.1)).setCell ⟨blk, off + i * 4 + 3, none⟩ (.int .i64 x.2.2.2) =
      putRowK encE 4 (Sort.ahead w (n + q)) blk off (dk.setIfInBounds i x) := by
  subst hwr
  rw [putRowK_drewN]
  have h := setCells_putRow (Sort.ahead w (n + q)) blk off (encE x) (i * 4) (flatK encE 4 dk) (by simp [encE]; omega)
  rw [setMany_one dk i x hi] at h
  exact h
theorem holdsK_sub {w w' : World} {blk off : Nat} {d d' : Array E} (h : HoldsK encE 4 w blk off d) (hs : d'.size ≤ d.size) (he : ∀ j, j < d'.size → d'[j]! = d[j]!)
    (hc : ∀ t, t < d'.size * 4 → w'.cell? ⟨blk, off + t, none⟩ = w.cell? ⟨blk, off + t, none⟩ ∧ w'.frozen? ⟨blk, off + t, none⟩ = w.frozen? ⟨blk, off + t, none⟩) : HoldsK encE 4 w' blk off d' := by
  intro t ht
  have ht' : t < d'.size * 4 := by simpa using ht
  have h1 := h t (by simp; omega)
  rw [get_flatK _ _ _ t (by omega)] at h1
  rw [get_flatK _ _ _ t ht', he (t / 4) (by omega), (hc t ht').1, (hc t ht').2]
  exact h1
theorem putRowK_block (w : World) (blk off : Nat) (d : Array E) (i : Nat) (h : i ≠ blk) : (putRowK encE 4 w blk off d).heap[i]? = w.heap[i]? := by
  show (w.heap.modify blk _)[i]? = _
  rw [Array.getElem?_modify, if_neg (fun e => h e.symm)]
theorem grownBy_putRowK (w : World) (q blk off : Nat) (d : Array E) : w.grownBy (putRowK encE 4 (Sort.ahead w q) blk off d) (some blk) :=
  ⟨rfl, rfl, rfl, by show w.heap.size ≤ (putRow id (Sort.ahead w q) blk off _).heap.size; rw [size_putRow]; exact Nat.le_refl _, fun k _ hk => putRowK_block _ _ _ _ _ (fun e => hk (by rw [e]))⟩
theorem grownBy_setCells (b : Nat) : ∀ (vs : List Value) (o : Nat) (w : World), w.grownBy (w.setCells b o vs) (some b)
  | [], _, w => World.grownBy.refl w _
  | v :: r, o, w => by
    have h := grownBy_setCells b r (o + 1) (w.setCell ⟨b, o, none⟩ v)
    refine ⟨h.os, h.tape, h.output, by have := h.size; rwa [World.size_setCell] at this, fun k hk hne => ?_⟩
    rw [World.setCells, h.block k (by simpa using hk) hne]
    exact Below.heap_setCell _ _ _ _ (fun e => hne (by rw [e]))
theorem grownBy_trans {a b c : World} {r : Option Nat} (h : a.grownBy b r) (k : b.grownBy c r) : a.grownBy c r :=
  ⟨k.os.trans h.os, k.tape.trans h.tape, k.output.trans h.output, Nat.le_trans h.size k.size, fun i hi hn => (k.block i (Nat.lt_of_lt_of_le hi h.size) hn).trans (h.block i hi hn)⟩
theorem zeroE (w : World) : (zeroValue 32).run Tryd.prog w = .ok (.agg #[.int .i64 0, .int .i64 0, .int .i64 0, .int .i64 0]) w := by kernel_rfl
theorem clear4 (w : World) (b o n c : Nat) (hn : 0 < n)
    (hc : ∀ j, j < n * 4 → (w.cell? ⟨b, o + j, none⟩).isSome = true) (hf : ∀ j, j < n * 4 → w.frozen? ⟨b, o + j, none⟩ = false) :
    ∃ vs, vs.length = n * 4 ∧ ∀ ty, (Builtin.clear_ #[22] ty #[.slice (some ⟨b, o, none⟩) n c]).run Tryd.prog w = .ok (.tuple #[]) (w.setCells b o vs) := by
  have hz : (Value.agg #[.int .i64 0, .int .i64 0, .int .i64 0, .int .i64 0]).cells = #[.int .i64 0, .int .i64 0, .int .i64 0, .int .i64 0] := rfl
  have hl : (Builtin.zeroCells #[.int .i64 0, .int .i64 0, .int .i64 0, .int .i64 0] n).toList.length = n * 4 := by simp [Builtin.zeroCells]
  have h1 : ∀ v ∈ (Builtin.zeroCells #[.int .i64 0, .int .i64 0, .int .i64 0, .int .i64 0] n).toList, v.oneCell' = true := by
    intro v hv
    simp [Builtin.zeroCells] at hv
    obtain ⟨a, ha, rfl⟩ := hv
    have : a % 4 = 0 ∨ a % 4 = 1 ∨ a % 4 = 2 ∨ a % 4 = 3 := by omega
    rcases this with h | h | h | h <;> simp [h] <;> rfl
  have hst := run_storeCells_cells (P := Tryd.prog) b o _ 0 w (by rw [hl]; simpa using hc) (by rw [hl]; simpa using hf) h1
  simp only [Nat.add_zero] at hst
  refine ⟨_, hl, fun ty => ?_⟩
  obtain ⟨m, rfl⟩ : ∃ m, n = m + 1 := ⟨n - 1, by omega⟩
  simp [Builtin.clear_, run_underlying Tryd.underlying22, hz, hst]
/-- What Compact leaves: the slice cut to what is kept; the row's head holds that; other blocks are as they were. -/
def Compacted (d : Array E) (blk off cap : Nat) (w : World) (e : Ending) (w' : World) : Prop :=
  e = .returned (.slice (some ⟨blk, off, none⟩) (compactUpTo d d.size).length cap) ∧ HoldsK encE 4 w' blk off (compactUpTo d d.size).toArray ∧ w.grownBy w' (some blk)
theorem compacted_all {d : Array E} {blk off cap : Nat} {w : World} (hH : HoldsK encE 4 w blk off d) (hall : ∀ j, j < d.size → keeps d j = true) (q : Nat) :
    Compacted d blk off cap w (.returned (.slice (some ⟨blk, off, none⟩) d.size cap)) (w.drewN q) := by
  have e : compactUpTo d d.size = d.toList := by rw [compactUpTo_all d _ hall, range_map_get]
  unfold Compacted
  rw [e]
  refine ⟨by simp, ?_, rfl, rfl, rfl, Nat.le_refl _, fun _ _ _ => rfl⟩
  rw [Array.toArray_toList]
  exact holdsK_ahead (enc := encE) (k := 4) w q blk off d hH
theorem compacted_end {d dk : Array E} {blk off cap kk q : Nat} {w wr : World} (hI : CompInv d d.size kk dk) (hwr : wr = putRowK encE 4 (Sort.ahead w q) blk off dk) (hHk : HoldsK encE 4 wr blk off dk) (vs : List Value) (_hl : vs.length = (d.size - kk) * 4) :
    Compacted d blk off cap w (.returned (.slice (some ⟨blk, off, none⟩) kk cap)) (wr.setCells blk (off + kk * 4) vs) := by
  have hlen := hI.len
  have hlt := hI.lt
  have hsz := hI.size
  refine ⟨by rw [hlen], ?_, ?_⟩
  · refine holdsK_sub hHk (by simp; omega) (fun j hj => ?_) (fun t ht => ⟨?_, World.frozen?_setCells _ _ _ _ _⟩)
    · have hj' : j < kk := by simp at hj; omega
      have h1 := hI.low j hj'
      rw [getElem!_pos _ j (by simpa using hj)]
      have h2 : (compactUpTo d d.size)[j]? = some ((compactUpTo d d.size)[j]'(by simpa using hj)) := List.getElem?_eq_getElem _
      rw [h2] at h1
      simpa using h1
    · refine World.cell?_setCells_out blk vs _ wr _ (fun _ _ => Or.inl ?_)
      simp at ht ⊢
      omega
  · subst hwr
    exact grownBy_trans (grownBy_putRowK w q blk off dk) (grownBy_setCells _ _ _ _)
end Go.Proofs.YtjknnbeemcpppaaDoor.Pk
