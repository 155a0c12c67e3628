/-
  Lists of ints of the call's own: cut, turned. Not a statement of the seat.
-/
import Derived.Test.YtakgepdlninnhaaDoorHead11
import Derived.Test.YtakgepdlninnhaaDoorShelf
import Derived.Sort.Row
namespace Go.Proofs.YtakgepdlninnhaaDoor.Lst
open Go.ChangeShapes Go.WideShapes Go.ChangeAt Go.RowKit Base Go.Sort
theorem OwnI.cut {B : Nat} {w : World} {p : Option Addr} {n c : Nat} {zs : List Int} (h : OwnI B w (.slice p n c) zs) {m : Nat} (hm : m ≤ zs.length) : OwnI B w (.slice p m c) (zs.take m) := by
  have hl : (zs.take m).length = m := by rw [List.length_take]; omega
  rcases h.2 with ⟨hv, h0⟩ | ⟨g, cap, cur, hv, hB, hg, hc, hmx, hsz, htk⟩
  · injection hv with e1 e2 e3
    subst e1 e3
    have : m = 0 := by omega
    subst this
    exact ⟨rfl, .inl ⟨rfl, by simp⟩⟩
  · injection hv with e1 e2 e3
    subst e1 e3
    refine ⟨by simp, .inr ⟨g, c, cur, by rw [hl], hB, hg, by omega, hmx, hsz, ?_⟩⟩
    rw [hl, List.map_take, ← htk, List.take_take, show min m (zs.length * 1) = m * 1 by omega]
theorem heap_putRow {w : World} {q g : Nat} {cur : Array Value} {T : TypeId} (d : Array Int) (h : w.heap[g]? = some (.cells cur T)) : (putRow (Value.int .i64) (Sort.ahead w q) g 0 d).heap[g]? = some (.cells (putCells (Value.int .i64) 0 d cur) T) ∧ (∀ k, k ≠ g → (putRow (Value.int .i64) (Sort.ahead w q) g 0 d).heap[k]? = w.heap[k]?) ∧ (putRow (Value.int .i64) (Sort.ahead w q) g 0 d).heap.size = w.heap.size := by
  unfold putRow mapBlock Sort.ahead
  refine ⟨?_, fun k hk => ?_, ?_⟩
  · simp [Array.getElem?_modify, h, onCells]
  · simp [Array.getElem?_modify, Ne.symm hk]
  · simp
theorem OwnI.reversed {B : Nat} {w : World} {g n cap q : Nat} {zs : List Int} (h : OwnI B w (.slice (some ⟨g, 0, none⟩) n cap) zs) : OwnI B (putRow (Value.int .i64) (Sort.ahead w q) g 0 zs.reverse.toArray) (.slice (some ⟨g, 0, none⟩) n cap) zs.reverse := by
  rcases h.2 with ⟨hv, _⟩ | ⟨g', cap', cur, hv, hB, hg, hc, hmx, hsz, htk⟩
  · cases hv
  · injection hv with e1 e2 e3
    injection e1 with e1
    injection e1 with e1
    subst e1 e2 e3
    refine ⟨by simp, .inr ⟨g, cap, _, by simp, hB, (heap_putRow _ hg).1, by simpa using hc, hmx, by simpa [putCells] using hsz, ?_⟩⟩
    apply List.ext_getElem?
    intro k
    rw [List.getElem?_take]
    split
    · rename_i hk
      have hk' : k < zs.length := by simpa using hk
      have hkc : k < cur.size := by omega
      rw [Array.getElem?_toList, putCells, Array.getElem?_mapIdx, Array.getElem?_eq_getElem hkc, Option.map_some, if_pos ⟨Nat.zero_le _, by simpa using hk'⟩, List.getElem?_map, List.getElem?_eq_getElem (by simpa using hk')]
      simp [hk']
    · rename_i hk
      rw [List.getElem?_eq_none (by simp at hk ⊢; omega)]
theorem OwnI.holds {B : Nat} {w : World} {g n cap : Nat} {zs : List Int} (h : OwnI B w (.slice (some ⟨g, 0, none⟩) n cap) zs) : Holds (Value.int .i64) w g 0 zs.toArray := by
  rcases h.2 with ⟨hv, _⟩ | ⟨g', cap', cur, hv, hB, hg, hc, hmx, hsz, htk⟩
  · cases hv
  · injection hv with e1 e2 e3
    injection e1 with e1
    injection e1 with e1
    subst e1 e2 e3
    intro j hj
    have hj' : j < zs.length := by simpa using hj
    have hcj : cur[j]? = some (.int .i64 zs[j]) := by
      have : (cur.toList.take (zs.length * 1))[j]? = (zs.map (Value.int .i64))[j]? := by rw [htk]
      rw [List.getElem?_take, if_pos (by omega), Array.getElem?_toList, List.getElem?_map, List.getElem?_eq_getElem hj'] at this
      simpa using this
    refine ⟨?_, by simp [World.frozen?, hg]⟩
    simp [World.cell?, hg, hcj, hj']
theorem reversed_below {B : Nat} {w0 w : World} {q g : Nat} {cur : Array Value} {T : TypeId} (d : Array Int) (h : w.heap[g]? = some (.cells cur T)) (hb : Below B w0 w) (hg : B ≤ g) : Below B w0 (putRow (Value.int .i64) (Sort.ahead w q) g 0 d) :=
  ⟨hb.os, hb.tape, hb.output, by rw [(heap_putRow d h).2.2]; exact hb.size, fun k hk => ((heap_putRow d h).2.1 k (by omega)).trans (hb.block k hk)⟩
end Go.Proofs.YtakgepdlninnhaaDoor.Lst
