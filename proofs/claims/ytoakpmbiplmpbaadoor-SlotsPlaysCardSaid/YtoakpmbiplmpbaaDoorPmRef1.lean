/-
  Contracts of the document's own answers on lists of pairs: Del, Get, Rank, Same. Not a statement of the seat.
-/
import Derived.Test.YtoakpmbiplmpbaaDoorFPai
namespace Go.Proofs.YtoakpmbiplmpbaaDoor.F
open Go.ChangeShapes Go.WideShapes Go.ChangeAt Go.RowKit Base
/-- The pairs without a key. -/
def delL (key : Int) (l : List Pai) : List Pai := l.filter fun p => !(p.k == key)
def hasL (key : Int) (l : List Pai) : Bool := l.any fun p => p.k == key
theorem pai_take {l : List Pai} {k : Nat} (hk : k < l.length) : l.take (k + 1) = l.take k ++ [l.getD k Pai.zero] := by
  rw [List.take_succ_eq_append_getElem hk, List.getD_eq_getElem?_getD, List.getElem?_eq_getElem hk]
  rfl
theorem delL_snoc (key : Int) (l : List Pai) (p : Pai) : delL key (l ++ [p]) = if (p.k == key) = true then delL key l else delL key l ++ [p] := by
  unfold delL
  rw [List.filter_append]
  cases h : p.k == key <;> simp [h]
theorem hasL_snoc (key : Int) (l : List Pai) (p : Pai) : hasL key (l ++ [p]) = (hasL key l || (p.k == key)) := by
  unfold hasL
  simp
theorem delL_len (key : Int) (l : List Pai) : (delL key l).length ≤ l.length := List.length_filter_le _ _
/-- What a call that tells a new list of pairs, and a bool, leaves. -/
def PaiBool (zs : List Pai) (is : Bool) (w : World) (e : Ending) (w' : World) : Prop := ∃ v, e = .returned (.tuple #[v, .bool is]) ∧ OwnPai w.heap.size w' v zs ∧ Below w.heap.size w w'
set_option maxRecDepth 100000 in
set_option maxHeartbeats 2000000 in
theorem del_ref {base : Nat} (v : Value) (l : List Pai) (key : Int) (w : World) (h : Pais base w v l) (hl : l.length ≤ 100000) : Calls Tryd.prog 29 #[v, .int .i64 key] w (PaiBool (delL key l) (hasL key l) w) := by
  obtain ⟨p, c, rfl, _, hc⟩ := h.open_
  have HC := Lib.hid hc
  have HD : Hid (∀ k, k < l.length → delL key (l.take (k + 1)) = if ((l.getD k Pai.zero).k == key) = true then delL key (l.take k) else delL key (l.take k) ++ [l.getD k Pai.zero]) := Lib.hid fun k hk => by rw [pai_take hk, delL_snoc]
  have HH : Hid (∀ k, k < l.length → hasL key (l.take (k + 1)) = (hasL key (l.take k) || ((l.getD k Pai.zero).k == key))) := Lib.hid fun k hk => by rw [pai_take hk, hasL_snoc]
  have HN : Hid (∀ k, (delL key (l.take k)).length ≤ l.length) := Lib.hid fun k => Nat.le_trans (delL_len _ _) (by rw [List.length_take]; omega)
  have HF : Hid (PaiBool (delL key (l.take l.length)) (hasL key (l.take l.length)) w = PaiBool (delL key l) (hasL key l) w) := Lib.hid (by rw [List.take_length])
  have H0 : Hid (OwnPai w.heap.size w (.slice none 0 0) (delL key (l.take 0)) ∧ Below w.heap.size w w) := Lib.hid ⟨OwnPai.nil _ _, Below.refl _ _⟩
  rw [← HF.out]
  clear h hc HF
  go_enter Tryd.func29, Tryd.ntmps29
  go_wp2_with fail
  go_loopw [6, 7, 9, 12] (fun s6 s7 _ s12 wr => ∃ (k : Nat) (v : Value), s12 = .int .i64 (k : Int) ∧ v = s6 ∧ k ≤ l.length ∧ s7 = .bool (hasL key (l.take k)) ∧ Hid (OwnPai w.heap.size wr v (delL key (l.take k)) ∧ Below w.heap.size w wr)) (fun _ _ _ s12 _ => l.length - (intOf s12).toNat)
  case atStart => exact ⟨0, _, rfl, rfl, Nat.zero_le _, rfl, H0⟩
  case round =>
    obtain ⟨k, v, rfl, rfl, hk, rfl, HO⟩ := hrel
    by_cases hlt : k < l.length
    · obtain ⟨g', o', rfl, _, hg, c0, c1⟩ := HC.out k hlt
      have c0 := (HO.out.2.cell (p := ⟨g', _, none⟩) hg).trans c0
      have c1 := (HO.out.2.cell (p := ⟨g', _, none⟩) hg).trans c1
      have hd := HD.out k hlt
      have hh := HH.out k hlt
      generalize l.getD k Pai.zero = x at c0 c1 hd hh
      obtain ⟨xk, xv⟩ := x
      simp only at c0 c1 hd hh
      by_cases he : xk = key
      · have he1 : (xk == key) = true := by rw [beq_iff_eq]; exact he
        rw [he1, if_pos rfl] at hd
        rw [he1, Bool.or_true] at hh
        have HO2 : Hid (∀ X, Below wr.heap.size wr X → OwnPai w.heap.size X v (delL key (l.take (k + 1))) ∧ Below w.heap.size w X) := Lib.hid fun X hX => ⟨by rw [hd]; exact HO.out.1.below hX, HO.out.2.trans (hX.mono HO.out.2.size)⟩
        have HH2 := Lib.hid hh
        clear hd hh he hg
        go_wp2_with fail
        go_roundw
        case rel => exact ⟨k + 1, v, by go_num, rfl, by omega, by rw [HH2.out], Lib.hid (HO2.out _ (by go_grown))⟩
        case measure => simp [intOf]; omega
      · have he1 : (xk == key) = false := by rw [beq_eq_false_iff_ne]; exact he
        rw [he1, if_neg (by decide)] at hd
        rw [he1, Bool.or_false] at hh
        have HD2 := Lib.hid hd
        have HH2 := Lib.hid hh
        have HNK := HN.out k
        clear hd hh he hg
        go_wp2_with (at_builtin; refine append_pais rfl (.tmp 20) (.tmp 22) rfl (Nat.le_trans HO.out.2.size (by simp; omega)) (HO.out.1.below (by go_grown)) rfl (pai_at ⟨xk, xv⟩ (heap_alloc_at _ _ _ (by simp))) rfl (by simp; omega) ?_; intro v2 w2 ho hg2 _)
        have HO2 : Hid (OwnPai w.heap.size w2 v2 (delL key (l.take (k + 1))) ∧ Below w.heap.size w w2) := Lib.hid ⟨by rw [HD2.out]; exact ho, ((HO.out.2.alloc HO.out.2.size _).alloc (by have := HO.out.2.size; simp; omega) _).grown hg2 (by have := HO.out.2.size; simp; omega) (fun b hb => (HO.out.1.base b hb).1)⟩
        clear ho hg2
        go_wp2_with fail
        go_roundw
        case rel => exact ⟨k + 1, v2, by go_num, rfl, by omega, by rw [HH2.out], HO2⟩
        case measure => simp [intOf]; omega
    · have e : k = l.length := by omega
      subst e
      clear HC HD HH HN
      go_wp2
      go_ret2
      exact ⟨v, rfl, HO.out.1, HO.out.2⟩
end Go.Proofs.YtoakpmbiplmpbaaDoor.F
