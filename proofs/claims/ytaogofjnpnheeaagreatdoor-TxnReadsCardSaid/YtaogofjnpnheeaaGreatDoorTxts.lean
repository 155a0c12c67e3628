/-
  Lists of texts in memory, a call's own. Not a statement of the seat.
-/
import Derived.Test.YtaogofjnpnheeaaGreatDoorHead
namespace Go.Proofs.YtaogofjnpnheeaaGreatDoor.Lst
open Go.ChangeShapes Go.WideShapes Go.ChangeAt Go.RowKit Base
/-- v is nil and xs is empty, or v's elements, which lie from block base on, are xs. -/
def Txts (base : Nat) (w : World) (v : Value) (xs : List ByteArray) : Prop :=
  ((∃ p c, v = .slice p 0 c) ∧ xs = []) ∨ ∃ g o c, v = .slice (some ⟨g, o, none⟩) xs.length c ∧ base ≤ g ∧ g < w.heap.size ∧ xs.length ≤ 9223372036854775807 ∧ ∀ k, k < xs.length → w.cell? ⟨g, o + k, none⟩ = some (.string (xs.getD k .empty))
theorem Txts.below {base : Nat} {w w1 : World} {v : Value} {xs : List ByteArray} (h : Txts base w v xs) (hb : Below w.heap.size w w1) : Txts base w1 v xs := by
  rcases h with h | ⟨g, o, c, hv, h1, h2, h3, h4⟩
  · exact .inl h
  · exact .inr ⟨g, o, c, hv, h1, Nat.lt_of_lt_of_le h2 hb.size, h3, fun k hk => (hb.cell (p := ⟨g, o + k, none⟩) h2).trans (h4 k hk)⟩
theorem Txts.grown {base : Nat} {w w1 : World} {v : Value} {xs : List ByteArray} {x : Nat} (h : Txts base w v xs) (hg : w.grownBy w1 (some x)) (hx : x < base) : Txts base w1 v xs := by
  rcases h with h | ⟨g, o, c, hv, h1, h2, h3, h4⟩
  · exact .inl h
  · refine .inr ⟨g, o, c, hv, h1, Nat.lt_of_lt_of_le h2 hg.size, h3, fun k hk => ?_⟩
    rw [World.cell?_of_block (w := w) (a := ⟨g, o + k, none⟩) (hg.block g h2 (fun e => by have := Option.some.inj e; omega))]
    exact h4 k hk
theorem Txts.mono {base base' : Nat} {w : World} {v : Value} {xs : List ByteArray} (h : Txts base w v xs) (hb : base' ≤ base) : Txts base' w v xs := by
  rcases h with h | ⟨g, o, c, hv, h1, h2⟩
  · exact .inl h
  · exact .inr ⟨g, o, c, hv, Nat.le_trans hb h1, h2⟩
theorem Txts.open_ {base : Nat} {w : World} {v : Value} {xs : List ByteArray} (h : Txts base w v xs) : ∃ p c, v = .slice p xs.length c ∧ xs.length ≤ 9223372036854775807 ∧ ∀ k, k < xs.length → ∃ g o, p = some ⟨g, o, none⟩ ∧ base ≤ g ∧ g < w.heap.size ∧ w.cell? ⟨g, o + k, none⟩ = some (.string (xs.getD k .empty)) := by
  rcases h with ⟨⟨p, c, rfl⟩, rfl⟩ | ⟨g, o, c, hv, h1, h2, h3, h4⟩
  · exact ⟨p, c, rfl, by simp, fun k hk => by simp at hk⟩
  · exact ⟨_, c, hv, h3, fun k hk => ⟨g, o, rfl, h1, h2, h4 k hk⟩⟩
theorem Txts.nil {base : Nat} {w : World} : Txts base w (.slice none 0 0) [] := .inl ⟨⟨_, _, rfl⟩, rfl⟩
/-- A list that is typed out. -/
theorem lit_txts (zs : List ByteArray) (w : World) (t : TypeId) (vs : Array Value) (hv : vs = (zs.map (Value.string)).toArray) (hl : zs.length ≤ 65536) (m : Nat) (hm : m = zs.length) : Txts w.heap.size (w.alloc (.cells vs t)) (.slice (some ⟨w.heap.size, 0, none⟩) m m) zs := by
  subst hv hm
  refine .inr ⟨w.heap.size, 0, _, rfl, Nat.le_refl _, by simp, by omega, fun k hk => ?_⟩
  simp only [World.cell?, heap_alloc_at _ _ _ rfl, Nat.zero_add]
  simp [List.getD_eq_getElem?_getD, hk]
theorem txt_info : (Tryz.prog.info? 9).map (fun i => (i.zero, i.size, i.bytes)) = some (some (.string .empty), 1, 16) := by kernel_rfl
theorem own_baseT {w : World} {base : Nat} {e : TypeId} {size n : Nat} {v : Value} {xs : List Value} (h : w.ownsRow base e size v n xs) : ∀ k, v.ownBlock = some k → base ≤ k := fun k hk => (h.lt k hk).1
/-- The slice v, which the call made itself from block B on, holds zs. -/
def OwnT (B : Nat) (w : World) (v : Value) (zs : List ByteArray) : Prop := w.ownsRow B 9 1 v zs.length (zs.map (Value.string))
theorem OwnT.nil (B : Nat) (w : World) : OwnT B w (.slice none 0 0) [] := World.ownsRow_nil _ _ _ _
theorem OwnT.ints {B : Nat} {w : World} {v : Value} {zs : List ByteArray} (h : OwnT B w v zs) (hl : zs.length ≤ 9223372036854775807) : Txts 0 w v zs := by
  obtain ⟨_, h⟩ := h
  rcases h with ⟨hv, h0⟩ | ⟨g, cap, cur, hv, h1, h2, h3, h4, h5, h6⟩
  · exact .inl ⟨⟨_, _, hv⟩, List.length_eq_zero_iff.1 h0⟩
  · refine .inr ⟨g, 0, cap, hv, Nat.zero_le _, heap_lt h2, hl, fun k hk => ?_⟩
    have hc : cur[k]? = some (.string (zs.getD k .empty)) := by
      have : (cur.toList.take (zs.length * 1))[k]? = (zs.map (Value.string))[k]? := by rw [h6]
      rw [List.getElem?_take, if_pos (by omega)] at this
      rw [← Array.getElem?_toList, this, List.getElem?_map, List.getElem?_eq_getElem hk, List.getD_eq_getElem?_getD, List.getElem?_eq_getElem hk]
      rfl
    simp [World.cell?, h2, hc]
/-- A number is put behind a slice of the call's own. -/
theorem append_txt {ops : Array Oper} {rest : List Oper} {o : Oper} {a : Act} {Q : Exit → Act → World → Prop} (hgd : o.guard = none) (s x : Operand)
    (ho : o.op = .call { callee := .builtin .append, args := #[s, x], argTypes := #[54, 54] }) {w0 w : World} {v : Value} {zs : List ByteArray} {z : ByteArray}
    (hb : Below w0.heap.size w0 w) (hown : OwnT w0.heap.size w v zs) (hs : a.eval s = v) (hx : a.eval x = .slice (some ⟨w.heap.size, 0, none⟩) 1 1) (hl : zs.length ≤ 1000000)
    (h : ∀ v' w', OwnT w0.heap.size w' v' (zs ++ [z]) → Below w0.heap.size w0 w' → wpList Tryz.prog ops Q rest (a.put o.dst v') w') : wpList Tryz.prog ops Q (o :: rest) a (w.alloc (.cells #[.string z] 9)) := by
  obtain ⟨i0, hi, hz0, hz1, hz2⟩ := info_parts txt_info
  have hz := hb.size
  refine wpList_append_own _ hgd s x 54 ho w0.heap.size 9 i0 (.string .empty) 1 16 Tryz.underlying54 hi hz0 hz1 hz2 rfl (by decide) v zs.length (zs.map (Value.string)) hs (hown.alloc _) ⟨w.heap.size, 0, none⟩ 1 1 [.string z] hx rfl ?_ ?_ (by simp only [maxLen]; omega) (by omega) (by simp; omega) ?_
  · intro t u hu
    match t, hu with
    | 0, hu => simp at hu; subst hu; simp [Addr.add]
  · intro u hu; simp at hu; subst hu; rfl
  · intro v' w' hown' hg _
    refine h v' w' ?_ ((hb.alloc hz _).grown hg (by simp; omega) (own_baseT hown))
    unfold OwnT
    rw [List.length_append, List.map_append]
    exact hown'
/-- What a call that tells a new list of texts leaves. -/
def TxtsNew (xs : List ByteArray) (w : World) (e : Ending) (w' : World) : Prop := (∃ v, e = .returned v ∧ Txts 0 w' v xs) ∧ Below w.heap.size w w'
end Go.Proofs.YtaogofjnpnheeaaGreatDoor.Lst
