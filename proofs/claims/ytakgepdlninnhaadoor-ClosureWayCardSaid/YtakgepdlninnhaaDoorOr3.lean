/-
  Contracts of slices.Equal, Clone and DeleteFunc at ints, and of order's Same, With, Without. Not a statement of the seat.
-/
import Derived.Test.YtakgepdlninnhaaDoorHead23
import Derived.Test.YtakgepdlninnhaaDoorFs1
namespace Go.Proofs.YtakgepdlninnhaaDoor.Or
open Go.ChangeShapes Go.WideShapes Go.ChangeAt Go.RowKit Base Lst Go.Sort
def OwnNew (xs : List Int) (w : World) (e : Ending) (w' : World) : Prop := ∃ v, e = .returned v ∧ OwnI w.heap.size w' v xs ∧ Below w.heap.size w w'
/-- A list that came in, or is the call's own: nil has no room. -/
def Cap0 (v : Value) : Prop := ∀ n c, v = .slice none n c → c = 0
theorem own_put {B : Nat} {w : World} {g n cap q : Nat} {zs ys tl : List Int} (h : OwnI B w (.slice (some ⟨g, 0, none⟩) n cap) zs) (hl : ys.length + tl.length = zs.length) : OwnI B (putRow (Value.int .i64) (Sort.ahead w q) g 0 (ys ++ tl).toArray) (.slice (some ⟨g, 0, none⟩) ys.length cap) ys := by
  rcases h.2 with ⟨hv, _⟩ | ⟨g', cap', cur, hv, hB, hg, hc, hmx, hsz, htk⟩
  · cases hv
  · injection hv with e1 e2 e3
    injection e1 with e1
    injection e1 with e1
    subst e1 e2 e3
    refine ⟨by simp, .inr ⟨g, cap, _, rfl, hB, (heap_putRow _ hg).1, by omega, hmx, by simpa [putCells] using hsz, ?_⟩⟩
    apply List.ext_getElem?
    intro k
    rw [List.getElem?_take]
    split
    · rename_i hk
      have hk' : k < ys.length := by simpa using hk
      have hkc : k < cur.size := by omega
      rw [Array.getElem?_toList, putCells, Array.getElem?_mapIdx, Array.getElem?_eq_getElem hkc, Option.map_some, if_pos ⟨Nat.zero_le _, by simp; omega⟩, List.getElem?_map, List.getElem?_eq_getElem hk']
      simp [hk', List.getElem?_append]
    · rename_i hk
      rw [List.getElem?_eq_none (by simp at hk ⊢; omega)]
theorem putRow_grown {B : Nat} {w : World} {g n cap q : Nat} {zs : List Int} (d : Array Int) (h : OwnI B w (.slice (some ⟨g, 0, none⟩) n cap) zs) : w.grownBy (putRow (Value.int .i64) (Sort.ahead w q) g 0 d) (some g) := by
  rcases h.2 with ⟨hv, _⟩ | ⟨g', cap', cur, hv, hB, hg, _⟩
  · cases hv
  · injection hv with e1 e2 e3
    injection e1 with e1
    injection e1 with e1
    subst e1
    exact ⟨rfl, rfl, rfl, by rw [(heap_putRow d hg).2.2]; exact Nat.le_refl _, fun k _ hk => (heap_putRow d hg).2.1 k (fun e => hk (by rw [e]))⟩
end Go.Proofs.YtakgepdlninnhaaDoor.Or
