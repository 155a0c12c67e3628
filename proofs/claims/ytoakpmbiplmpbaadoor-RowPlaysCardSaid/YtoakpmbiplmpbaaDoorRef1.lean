/-
  Contracts of the document's own answers for rows: Size, In, Next, Put, Or, Minus, And, Moved, on lists of ints. Not a statement of the seat.
-/
import Derived.Test.YtoakpmbiplmpbaaDoorRow12
namespace Go.Proofs.YtoakpmbiplmpbaaDoor.Bits
open Go.ChangeShapes Go.WideShapes Go.ChangeAt Go.RowKit Base Go.Shelf
/-- The slice v, which the call made itself from block B on, holds zs. -/
def OwnI (B : Nat) (w : World) (v : Value) (zs : List Int) : Prop := w.ownsRow B 3 1 v zs.length (zs.map (Value.int .i64))
theorem OwnI.nil (B : Nat) (w : World) : OwnI B w (.slice none 0 0) [] := World.ownsRow_nil _ _ _ _
theorem OwnI.ints {B : Nat} {w : World} {v : Value} {zs : List Int} (h : OwnI B w v zs) (hl : zs.length ≤ 9223372036854775807) : Ints 0 w v zs := by
  obtain ⟨_, h⟩ := h
  rcases h with ⟨hv, h0⟩ | ⟨g, cap, cur, hv, h1, h2, h3, h4, h5, h6⟩
  · exact .inl ⟨⟨_, _, hv⟩, List.length_eq_zero_iff.1 h0⟩
  · refine .inr ⟨g, 0, cap, hv, Nat.zero_le _, heap_lt h2, hl, fun k hk => ?_⟩
    have hc : cur[k]? = some (.int .i64 (zs.getD k 0)) := by
      have : (cur.toList.take (zs.length * 1))[k]? = (zs.map (Value.int .i64))[k]? := by rw [h6]
      rw [List.getElem?_take, if_pos (by omega)] at this
      rw [← Array.getElem?_toList, this, List.getElem?_map, List.getElem?_eq_getElem hk, List.getD_eq_getElem?_getD, List.getElem?_eq_getElem hk]
      rfl
    simp [World.cell?, h2, hc]
/-- A number is put behind a slice of the call's own. -/
theorem append_int {ops : Array Oper} {rest : List Oper} {o : Oper} {a : Act} {Q : Exit → Act → World → Prop} (hgd : o.guard = none) (s x : Operand)
    (ho : o.op = .call { callee := .builtin .append, args := #[s, x], argTypes := #[26, 26] }) {w0 w : World} {v : Value} {zs : List Int} {z : Int}
    (hb : Below w0.heap.size w0 w) (hown : OwnI w0.heap.size w v zs) (hs : a.eval s = v) (hx : a.eval x = .slice (some ⟨w.heap.size, 0, none⟩) 1 1) (hl : zs.length ≤ 1000000)
    (h : ∀ v' w', OwnI w0.heap.size w' v' (zs ++ [z]) → Below w0.heap.size w0 w' → wpList Tryd.prog ops Q rest (a.put o.dst v') w') : wpList Tryd.prog ops Q (o :: rest) a (w.alloc (.cells #[.int .i64 z] 3)) := by
  obtain ⟨i0, hi, hz0, hz1, hz2⟩ := info_parts int_info
  have hz := hb.size
  refine wpList_append_own _ hgd s x 26 ho w0.heap.size 3 i0 (.int .i64 0) 1 8 Tryd.underlying26 hi hz0 hz1 hz2 rfl (by decide) v zs.length (zs.map (Value.int .i64)) hs (hown.alloc _) ⟨w.heap.size, 0, none⟩ 1 1 [.int .i64 z] hx rfl ?_ ?_ (by simp only [maxLen]; omega) (by omega) (by simp; omega) ?_
  · intro t u hu
    match t, hu with
    | 0, hu => simp at hu; subst hu; simp [Addr.add]
  · intro u hu; simp at hu; subst hu; rfl
  · intro v' w' hown' hg _
    refine h v' w' ?_ ((hb.alloc hz _).grown hg (by simp; omega) (own_base hown))
    unfold OwnI
    rw [List.length_append, List.map_append]
    exact hown'
/-- What a call that tells a new list leaves. -/
def ListNew (xs : List Int) (w : World) (e : Ending) (w' : World) : Prop := (∃ v, e = .returned v ∧ Ints 0 w' v xs) ∧ Below w.heap.size w w'
theorem size_any (n : Int) (w : World) : Calls Tryd.prog 13 #[.int .i64 n] w fun e w' => e = .returned (.int .i64 (rowLen n : Nat)) ∧ w = w' := by
  rcases (show n < 0 ∨ 0 ≤ n ∧ n ≤ 65536 ∨ 65536 < n from by omega) with h | ⟨h1, h2⟩ | h
  · have hl : ((rowLen n : Nat) : Int) = 0 := by unfold rowLen; omega
    rw [hl]
    clear hl
    go_enter Tryd.func13, Tryd.ntmps13
    go_wp2
    go_ret
    exact ⟨rfl, rfl⟩
  · have hl : ((rowLen n : Nat) : Int) = n := by unfold rowLen; omega
    rw [hl]
    clear hl
    go_enter Tryd.func13, Tryd.ntmps13
    go_wp2
    go_ret
    exact ⟨rfl, rfl⟩
  · have hl : ((rowLen n : Nat) : Int) = 65536 := by unfold rowLen; omega
    rw [hl]
    clear hl
    go_enter Tryd.func13, Tryd.ntmps13
    go_wp2
    go_ret
    exact ⟨rfl, rfl⟩
theorem mem_take_succ {xs : List Int} {k : Nat} (hk : k < xs.length) : xs.take (k + 1) = xs.take k ++ [xs.getD k 0] := by
  rw [List.take_succ_eq_append_getElem hk]
  simp [hk]
set_option maxHeartbeats 1000000 in
theorem in_any {base : Nat} {v : Value} {xs : List Int} (i : Int) (w : World) (h : Ints base w v xs) : Calls Tryd.prog 44 #[v, .int .i64 i] w fun e w' => e = .returned (.bool (decide (i ∈ xs))) ∧ w = w' := by
  obtain ⟨p, c, rfl, hl, hc⟩ := h.open_
  have HC := Lib.hid hc
  have HY : Hid (∀ k, k < xs.length → xs.getD k 0 = i → decide (i ∈ xs) = true) := Lib.hid fun k hk e => by
    rw [decide_eq_true_iff, ← e]
    simp [hk]
  have HN : Hid ((∀ j, j < xs.length → xs.getD j 0 ≠ i) → decide (i ∈ xs) = false) := Lib.hid fun h => by
    rw [decide_eq_false_iff_not]
    intro hm
    obtain ⟨j, hj, e⟩ := List.mem_iff_getElem.1 hm
    exact h j hj (by simpa [hj] using e)
  clear hc h
  generalize decide (i ∈ xs) = r at HY HN ⊢
  go_enter Tryd.func44, Tryd.ntmps44
  go_wp2_with fail
  go_loopw [9] (fun s9 wr => ∃ k : Nat, s9 = .int .i64 k ∧ k ≤ xs.length ∧ wr = w ∧ Hid (∀ j, j < k → xs.getD j 0 ≠ i)) (fun s9 _ => xs.length - (intOf s9).toNat)
  case atStart => exact ⟨0, rfl, Nat.zero_le _, rfl, Lib.hid fun j hj => absurd hj (by omega)⟩
  case round =>
    obtain ⟨k, rfl, hk, rfl, HK⟩ := hrel
    by_cases hlt : k < xs.length
    · obtain ⟨g', o', rfl, _, _, hcell⟩ := HC.out k hlt
      have HYK := Lib.hid (HY.out k hlt)
      have HKK : Hid (xs.getD k 0 ≠ i → ∀ j, j < k + 1 → xs.getD j 0 ≠ i) := Lib.hid fun h j hj => by
        by_cases e : j = k
        · rw [e]; exact h
        · exact HK.out j (by omega)
      generalize xs.getD k 0 = x at hcell HYK HKK
      by_cases hx : x = i
      · have hr := HYK.out hx
        subst hx
        have HR := Lib.hid hr
        clear HKK HK HYK hr
        go_wp2
        go_ret
        exact ⟨ret_bool HR.out.symm, rfl⟩
      · have HK2 := Lib.hid (HKK.out hx)
        have hd : (x == i) = false := by rw [beq_eq_false_iff_ne]; exact hx
        clear HKK HK HYK
        go_wp2_with fail
        go_roundw
        case rel => exact ⟨k + 1, by go_num, by omega, trivial, HK2⟩
        case measure => simp [intOf]; omega
    · have hr := HN.out (fun j hj => HK.out j (by omega))
      have HR := Lib.hid hr
      clear HK HY HN hr
      go_wp2
      go_ret
      exact ⟨ret_bool HR.out.symm, rfl⟩
/-- The least that is i or more; -1: there is none. -/
def nextL (xs : List Int) (i : Int) : Int := (xs.find? fun x => decide (i ≤ x)).getD (-1)
theorem nextL_at {xs : List Int} {i : Int} {k : Nat} (hk : k < xs.length) (h : i ≤ xs.getD k 0) (hn : ∀ j, j < k → xs.getD j 0 < i) : nextL xs i = xs.getD k 0 := by
  unfold nextL
  have : (xs.find? fun x => decide (i ≤ x)) = some (xs.getD k 0) := by
    rw [List.find?_eq_some_iff_getElem]
    refine ⟨by simpa using h, k, hk, by simp [hk], fun j hj => ?_⟩
    have := hn j hj
    have hj' : j < xs.length := by omega
    simp [hj'] at this ⊢
    exact this
  rw [this]; rfl
theorem nextL_none {xs : List Int} {i : Int} (hn : ∀ j, j < xs.length → xs.getD j 0 < i) : nextL xs i = -1 := by
  unfold nextL
  have : (xs.find? fun x => decide (i ≤ x)) = none := by
    rw [List.find?_eq_none]
    intro x hx
    obtain ⟨j, hj, e⟩ := List.mem_iff_getElem.1 hx
    have := hn j hj
    simp [hj] at this
    simp [← e]; exact this
  rw [this]; rfl
set_option maxHeartbeats 1000000 in
theorem nextl_any {base : Nat} {v : Value} {xs : List Int} (i : Int) (w : World) (h : Ints base w v xs) : Calls Tryd.prog 51 #[v, .int .i64 i] w fun e w' => e = .returned (.int .i64 (nextL xs i)) ∧ w = w' := by
  obtain ⟨p, c, rfl, hl, hc⟩ := h.open_
  have HC := Lib.hid hc
  have HY : Hid (∀ k, k < xs.length → i ≤ xs.getD k 0 → (∀ j, j < k → xs.getD j 0 < i) → nextL xs i = xs.getD k 0) := Lib.hid fun k hk h hn => nextL_at hk h hn
  have HN : Hid ((∀ j, j < xs.length → xs.getD j 0 < i) → nextL xs i = -1) := Lib.hid nextL_none
  clear hc h
  generalize nextL xs i = r at HY HN ⊢
  go_enter Tryd.func51, Tryd.ntmps51
  go_wp2_with fail
  go_loopw [9] (fun s9 wr => ∃ k : Nat, s9 = .int .i64 k ∧ k ≤ xs.length ∧ wr = w ∧ Hid (∀ j, j < k → xs.getD j 0 < i)) (fun s9 _ => xs.length - (intOf s9).toNat)
  case atStart => exact ⟨0, rfl, Nat.zero_le _, rfl, Lib.hid fun j hj => absurd hj (by omega)⟩
  case round =>
    obtain ⟨k, rfl, hk, rfl, HK⟩ := hrel
    by_cases hlt : k < xs.length
    · obtain ⟨g', o', rfl, _, _, hcell⟩ := HC.out k hlt
      have HYK := Lib.hid (fun h => HY.out k hlt h HK.out)
      have HKK : Hid (xs.getD k 0 < i → ∀ j, j < k + 1 → xs.getD j 0 < i) := Lib.hid fun h j hj => by
        by_cases e : j = k
        · rw [e]; exact h
        · exact HK.out j (by omega)
      generalize xs.getD k 0 = x at hcell HYK HKK
      by_cases hx : i ≤ x
      · have hr := HYK.out hx
        subst hr
        clear HKK HK HYK HY HN
        go_wp2
        go_ret
        exact ⟨rfl, rfl⟩
      · have HK2 := Lib.hid (HKK.out (by omega))
        clear HKK HK HYK
        go_wp2_with fail
        go_roundw
        case rel => exact ⟨k + 1, by go_num, by omega, trivial, HK2⟩
        case measure => simp [intOf]; omega
    · have hr := HN.out (fun j hj => HK.out j (by omega))
      subst hr
      clear HK HY HN
      go_wp2
      go_ret
      exact ⟨rfl, rfl⟩
end Go.Proofs.YtoakpmbiplmpbaaDoor.Bits
