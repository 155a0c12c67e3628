/-
  Lists of ints in memory, and how one that came in reads. Not a statement of the seat.
-/
import Derived.Test.YtjknnbeemcpppaaDoorBase
import Derived.ProofKit
import Derived.OpenShut
import Derived.Deep.DeepHandedRow
import Derived.Laws.Slices
namespace Go.Proofs.YtjknnbeemcpppaaDoor.Lst
open Go.ChangeShapes Go.WideShapes Go.ChangeAt Go.RowKit Base
/-- v is nil and xs is empty, or v's elements, which lie from block base on, are xs. -/
def Ints (base : Nat) (w : World) (v : Value) (xs : List Int) : Prop :=
  ((∃ p c, v = .slice p 0 c) ∧ xs = []) ∨ ∃ g o c, v = .slice (some ⟨g, o, none⟩) xs.length c ∧ base ≤ g ∧ g < w.heap.size ∧ xs.length ≤ 9223372036854775807 ∧ ∀ k, k < xs.length → w.cell? ⟨g, o + k, none⟩ = some (.int .i64 (xs.getD k 0))
theorem Ints.below {base : Nat} {w w1 : World} {v : Value} {xs : List Int} (h : Ints base w v xs) (hb : Below w.heap.size w w1) : Ints base w1 v xs := by
  rcases h with h | ⟨g, o, c, hv, h1, h2, h3, h4⟩
  · exact .inl h
  · exact .inr ⟨g, o, c, hv, h1, Nat.lt_of_lt_of_le h2 hb.size, h3, fun k hk => (hb.cell (p := ⟨g, o + k, none⟩) h2).trans (h4 k hk)⟩
theorem Ints.grown {base : Nat} {w w1 : World} {v : Value} {xs : List Int} {x : Nat} (h : Ints base w v xs) (hg : w.grownBy w1 (some x)) (hx : x < base) : Ints base w1 v xs := by
  rcases h with h | ⟨g, o, c, hv, h1, h2, h3, h4⟩
  · exact .inl h
  · refine .inr ⟨g, o, c, hv, h1, Nat.lt_of_lt_of_le h2 hg.size, h3, fun k hk => ?_⟩
    rw [World.cell?_of_block (w := w) (a := ⟨g, o + k, none⟩) (hg.block g h2 (fun e => by have := Option.some.inj e; omega))]
    exact h4 k hk
theorem Ints.mono {base base' : Nat} {w : World} {v : Value} {xs : List Int} (h : Ints base w v xs) (hb : base' ≤ base) : Ints base' w v xs := by
  rcases h with h | ⟨g, o, c, hv, h1, h2⟩
  · exact .inl h
  · exact .inr ⟨g, o, c, hv, Nat.le_trans hb h1, h2⟩
theorem Ints.open_ {base : Nat} {w : World} {v : Value} {xs : List Int} (h : Ints base w v xs) : ∃ p c, v = .slice p xs.length c ∧ xs.length ≤ 9223372036854775807 ∧ ∀ k, k < xs.length → ∃ g o, p = some ⟨g, o, none⟩ ∧ base ≤ g ∧ g < w.heap.size ∧ w.cell? ⟨g, o + k, none⟩ = some (.int .i64 (xs.getD k 0)) := by
  rcases h with ⟨⟨p, c, rfl⟩, rfl⟩ | ⟨g, o, c, hv, h1, h2, h3, h4⟩
  · exact ⟨p, c, rfl, by simp, fun k hk => by simp at hk⟩
  · exact ⟨_, c, hv, h3, fun k hk => ⟨g, o, rfl, h1, h2, h4 k hk⟩⟩
theorem Ints.nil {base : Nat} {w : World} : Ints base w (.slice none 0 0) [] := .inl ⟨⟨_, _, rfl⟩, rfl⟩
/-- A list that is typed out. -/
theorem lit_ints (zs : List Int) (w : World) (t : TypeId) (vs : Array Value) (hv : vs = (zs.map (Value.int .i64)).toArray) (hl : zs.length ≤ 65536) (m : Nat) (hm : m = zs.length) : Ints w.heap.size (w.alloc (.cells vs t)) (.slice (some ⟨w.heap.size, 0, none⟩) m m) zs := by
  subst hv hm
  refine .inr ⟨w.heap.size, 0, _, rfl, Nat.le_refl _, by simp, by omega, fun k hk => ?_⟩
  simp only [World.cell?, heap_alloc_at _ _ _ rfl, Nat.zero_add]
  simp [List.getD_eq_getElem?_getD, hk]
theorem int_info : (Tryd.prog.info? 3).map (fun i => (i.zero, i.size, i.bytes)) = some (some (.int .i64 0), 1, 8) := by kernel_rfl
theorem own_base {w : World} {base : Nat} {e : TypeId} {size n : Nat} {v : Value} {xs : List Value} (h : w.ownsRow base e size v n xs) : ∀ k, v.ownBlock = some k → base ≤ k := fun k hk => (h.lt k hk).1
/-- The slice v, which the call made itself from block B on, holds zs. -/
def OwnI (B : Nat) (w : World) (v : Value) (zs : List Int) : Prop := w.ownsRow B 3 1 v zs.length (zs.map (Value.int .i64))
theorem OwnI.nil (B : Nat) (w : World) : OwnI B w (.slice none 0 0) [] := World.ownsRow_nil _ _ _ _
theorem OwnI.ints {B : Nat} {w : World} {v : Value} {zs : List Int} (h : OwnI B w v zs) (hl : zs.length ≤ 9223372036854775807) : Ints 0 w v zs := by
  obtain ⟨_, h⟩ := h
  rcases h with ⟨hv, h0⟩ | ⟨g, cap, cur, hv, h1, h2, h3, h4, h5, h6⟩
  · exact .inl ⟨⟨_, _, hv⟩, List.length_eq_zero_iff.1 h0⟩
  · refine .inr ⟨g, 0, cap, hv, Nat.zero_le _, heap_lt h2, hl, fun k hk => ?_⟩
    have hc : cur[k]? = some (.int .i64 (zs.getD k 0)) := by
      have : (cur.toList.take (zs.length * 1))[k]? = (zs.map (Value.int .i64))[k]? := by rw [h6]
      rw [List.getElem?_take, if_pos (by omega)] at this
      rw [← Array.getElem?_toList, this, List.getElem?_map, List.getElem?_eq_getElem hk, List.getD_eq_getElem?_getD, List.getElem?_eq_getElem hk]
      rfl
    simp [World.cell?, h2, hc]
/-- A number is put behind a slice of the call's own. -/
theorem append_int {ops : Array Oper} {rest : List Oper} {o : Oper} {a : Act} {Q : Exit → Act → World → Prop} (hgd : o.guard = none) (s x : Operand)
    (ho : o.op = .call { callee := .builtin .append, args := #[s, x], argTypes := #[35, 35] }) {w0 w : World} {v : Value} {zs : List Int} {z : Int}
    (hb : Below w0.heap.size w0 w) (hown : OwnI w0.heap.size w v zs) (hs : a.eval s = v) (hx : a.eval x = .slice (some ⟨w.heap.size, 0, none⟩) 1 1) (hl : zs.length ≤ 1000000)
    (h : ∀ v' w', OwnI w0.heap.size w' v' (zs ++ [z]) → Below w0.heap.size w0 w' → wpList Tryd.prog ops Q rest (a.put o.dst v') w') : wpList Tryd.prog ops Q (o :: rest) a (w.alloc (.cells #[.int .i64 z] 3)) := by
  obtain ⟨i0, hi, hz0, hz1, hz2⟩ := info_parts int_info
  have hz := hb.size
  refine wpList_append_own _ hgd s x 35 ho w0.heap.size 3 i0 (.int .i64 0) 1 8 Tryd.underlying35 hi hz0 hz1 hz2 rfl (by decide) v zs.length (zs.map (Value.int .i64)) hs (hown.alloc _) ⟨w.heap.size, 0, none⟩ 1 1 [.int .i64 z] hx rfl ?_ ?_ (by simp only [maxLen]; omega) (by omega) (by simp; omega) ?_
  · intro t u hu
    match t, hu with
    | 0, hu => simp at hu; subst hu; simp [Addr.add]
  · intro u hu; simp at hu; subst hu; rfl
  · intro v' w' hown' hg _
    refine h v' w' ?_ ((hb.alloc hz _).grown hg (by simp; omega) (own_base hown))
    unfold OwnI
    rw [List.length_append, List.map_append]
    exact hown'
/-- What a call that tells a new list leaves. -/
def ListNew (xs : List Int) (w : World) (e : Ending) (w' : World) : Prop := (∃ v, e = .returned v ∧ Ints 0 w' v xs) ∧ Below w.heap.size w w'
theorem cellsInt : Tryd.prog.cellsOf 3 = 1 := by kernel_rfl
section
variable {H : Type} {enc : TypeId × Value → H} {w : World}
set_option maxRecDepth 100000 in
theorem open_list {r : Reach} {b0 : Nat} {v : Value} {d : DataW H} {p : List MemPlace} (hv : Value.okWide Tryd.prog w r b0 35 v) (h : DataW.Trod enc Tryd.prog w 0 (fun _ => true) true 35 v d p) : ∃ zs, (∃ p c, v = .slice p zs.length c ∧ zs.length ≤ c) ∧ Ints 0 w v zs ∧ ∀ x ∈ zs, -9223372036854775808 ≤ x ∧ x ≤ 9223372036854775807 := by
  obtain ⟨a0, len, cap, rfl⟩ := okWide_slice Tryd.underlying35 hv
  obtain ⟨fuel, hf⟩ := h
  rcases open_ints Tryd.underlying35 Tryd.underlying3 cellsInt hf with ⟨hcs, _⟩ | ⟨a, len', cap', zs, hcs, _, hl, hm, hz, _, hcell, hwf⟩
  · simp [Value.cells] at hcs
    obtain ⟨rfl, rfl, rfl⟩ := hcs
    exact ⟨[], ⟨_, _, rfl, by simp⟩, .inl ⟨⟨_, _, rfl⟩, rfl⟩, fun x hx => by cases hx⟩
  · simp [Value.cells] at hcs
    obtain ⟨rfl, rfl, rfl⟩ := hcs
    simp only [if_true] at hz
    by_cases h0 : len = 0
    · subst h0
      exact ⟨[], ⟨_, _, rfl, by simp⟩, .inl ⟨⟨_, _, rfl⟩, rfl⟩, fun x hx => by cases hx⟩
    · obtain ⟨b, off, spot⟩ := a
      have hspot : spot = none := by simpa [Addr.add] using World.cell?_spot (hcell 0 (by omega))
      subst hspot
      have cj : ∀ j, j < zs.length → w.cell? ⟨b, off + j, none⟩ = some (.int .i64 (zs.getD j 0)) := fun j hj => by rw [← add_plain]; exact hcell j hj
      have hlt : b < w.heap.size := by
        rcases Nat.lt_or_ge b w.heap.size with h1 | h1
        · exact h1
        · have := cj 0 (by omega)
          simp [World.cell?, Array.getElem?_eq_none h1] at this
      have hlen : (zs.take len).length = len := by rw [List.length_take]; omega
      refine ⟨zs.take len, ⟨_, _, by rw [hlen], by rw [hlen]; omega⟩, .inr ⟨b, off, cap, by rw [hlen], Nat.zero_le _, hlt, by rw [hlen]; simp only [maxLen] at hm; omega, fun k hk => ?_⟩, fun x hx => bounds_i64 (hwf x (List.mem_of_mem_take hx))⟩
      rw [hlen] at hk
      rw [cj k (by omega)]
      simp [List.getD_eq_getElem?_getD, hk]
end
/-- A part of a list that lies in memory lies there. -/
theorem Ints.part {base : Nat} {W : World} {p : Option Addr} {n c : Nat} {xs : List Int} (h : Ints base W (.slice p n c) xs) (lo hi : Nat) (h1 : lo ≤ hi) (h2 : hi ≤ n) (h3 : n ≤ c) : Ints base W (sliced p lo hi c 1) ((xs.drop lo).take (hi - lo)) := by
  by_cases he : lo = hi
  · refine .inl ⟨?_, by subst he; simp⟩
    unfold sliced
    subst he
    cases p
    · exact ⟨_, _, by simp; exact ⟨rfl, rfl⟩⟩
    · exact ⟨_, _, by simp; exact ⟨rfl, rfl⟩⟩
  · rcases h with ⟨⟨p', c', hv⟩, rfl⟩ | ⟨g, o, c', hv, a1, a2, a3, a4⟩
    · have : n = 0 := by injection hv
      omega
    · injection hv with e1 e2 e3
      subst e1 e2 e3
      have hl : ((xs.drop lo).take (hi - lo)).length = hi - lo := by rw [List.length_take, List.length_drop]; omega
      refine .inr ⟨g, o + lo, c - lo, ?_, a1, a2, by omega, fun k hk => ?_⟩
      · rw [hl]
        unfold sliced
        have h9 : ¬ c = lo := by omega
        by_cases h0 : lo = 0
        · subst h0; simp [h9, Addr.add]
        · simp [h9, h0, Addr.add]
      · rw [hl] at hk
        rw [Nat.add_assoc, a4 (lo + k) (by omega)]
        have e : ((xs.drop lo).take (hi - lo)).getD k 0 = xs.getD (lo + k) 0 := by
          rw [List.getD_eq_getElem?_getD, List.getD_eq_getElem?_getD, List.getElem?_take, if_pos hk, List.getElem?_drop]
        rw [e]
theorem sizeInt (w : World) : (sizeOf 3).run Tryd.prog w = .ok 1 w := by kernel_rfl
theorem elemInts : Tryd.prog.underlying 35 = some (.slice (Tryd.prog.elem 35)) := by kernel_rfl
theorem elemInts' : Tryd.prog.elem 35 = 3 := by kernel_rfl
theorem Ints.slice_lh {base : Nat} {W : World} {p : Option Addr} {n c : Nat} {xs : List Int} (h : Ints base W (.slice p n c) xs) (lo hi : Nat) (h1 : lo ≤ hi) (h2 : hi ≤ n) (h3 : n ≤ c) :
    ∃ v, (∀ w, (Instr.sliceAt 35 (.slice p n c) (some (.int .i64 (lo : Int))) (some (.int .i64 (hi : Int))) none).run Tryd.prog w = .ok v w) ∧ Ints base W v ((xs.drop lo).take (hi - lo)) :=
  ⟨_, fun w => by rw [run_sliceAt_slice _ _ _ _ _ _ elemInts, run_slice_lh w _ _ _ _ elemInts _ _ _ _ (by omega) (by omega) (by omega), elemInts', sizeInt]; rfl, by simpa using h.part lo hi h1 h2 h3⟩
theorem Ints.slice_h {base : Nat} {W : World} {p : Option Addr} {n c : Nat} {xs : List Int} (h : Ints base W (.slice p n c) xs) (hi : Nat) (h2 : hi ≤ n) (h3 : n ≤ c) :
    ∃ v, (∀ w, (Instr.sliceAt 35 (.slice p n c) none (some (.int .i64 (hi : Int))) none).run Tryd.prog w = .ok v w) ∧ Ints base W v (xs.take hi) :=
  ⟨_, fun w => by rw [run_sliceAt_slice _ _ _ _ _ _ elemInts, run_slice_h w _ _ _ _ elemInts _ _ (by omega) (by omega), elemInts', sizeInt]; rfl, by simpa using h.part 0 hi (Nat.zero_le _) h2 h3⟩
theorem Ints.slice_l {base : Nat} {W : World} {p : Option Addr} {n c : Nat} {xs : List Int} (h : Ints base W (.slice p n c) xs) (hn : xs.length = n) (lo : Nat) (h2 : lo ≤ n) (h3 : n ≤ c) :
    ∃ v, (∀ w, (Instr.sliceAt 35 (.slice p n c) (some (.int .i64 (lo : Int))) none none).run Tryd.prog w = .ok v w) ∧ Ints base W v (xs.drop lo) :=
  ⟨_, fun w => by rw [run_sliceAt_slice _ _ _ _ _ _ elemInts, run_slice_l w _ _ _ _ elemInts _ _ (by omega) (by omega), elemInts', sizeInt]; rfl, by
    have := h.part lo n h2 (Nat.le_refl _) h3
    rw [List.take_of_length_le (by rw [List.length_drop]; omega)] at this
    simpa using this⟩
end Go.Proofs.YtjknnbeemcpppaaDoor.Lst
