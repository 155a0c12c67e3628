/-
  Contracts of slices.Sort and Compact at ints of the call's own, of txn's keysOf and Touched, and of the document's put and Keys. Not a statement of the seat.
-/
import Derived.Test.YtaogofjnpnheeaaGreatDoorTx1
import Derived.Test.YtaogofjnpnheeaaGreatDoorFs1
namespace Go.Proofs.YtaogofjnpnheeaaGreatDoor.Tx
open Go.ChangeShapes Go.WideShapes Go.ChangeAt Go.RowKit Base F Lst Go.Sort
def OwnNew (xs : List Int) (w : World) (e : Ending) (w' : World) : Prop := ∃ v, e = .returned v ∧ OwnI w.heap.size w' v xs ∧ Aft w w'
/-- Lists of the call's own on their way. -/
def Way (w wr : World) (v : Value) (zs : List Int) : Prop := OwnI w.heap.size wr v zs ∧ Aft w wr
theorem Way.nil {w : World} : Way w w (.slice none 0 0) [] := ⟨OwnI.nil _ _, Aft.refl _⟩
theorem Way.lay {w wr : World} {v : Value} {zs : List Int} (h : Way w wr v zs) (o : Obj) : Way w (wr.alloc o) v zs := ⟨h.1.lay rfl o, h.2.lay o⟩
theorem Way.onto {w wr w' : World} {v v' : Value} {zs zs' : List Int} (h : Way w wr v zs) (ho : OwnI w.heap.size w' v' zs') (hg : wr.grownBy w' v.ownBlock) : Way w w' v' zs' := ⟨ho, Below.grown h.2 hg h.2.size (own_base h.1)⟩
theorem own_put {B : Nat} {w : World} {g n cap q : Nat} {zs ys tl : List Int} (h : OwnI B w (.slice (some ⟨g, 0, none⟩) n cap) zs) (hl : ys.length + tl.length = zs.length) : OwnI B (putRow (Value.int .i64) (Sort.ahead w q) g 0 (ys ++ tl).toArray) (.slice (some ⟨g, 0, none⟩) ys.length cap) ys := by
  rcases h.2 with ⟨hv, _⟩ | ⟨g', cap', cur, hv, hB, hg, hc, hmx, hsz, htk⟩
  · cases hv
  · injection hv with e1 e2 e3
    injection e1 with e1
    injection e1 with e1
    subst e1 e2 e3
    refine ⟨by simp, .inr ⟨g, cap, _, rfl, hB, (heap_putRow _ hg).1, by omega, hmx, by simpa [putCells] using hsz, ?_⟩⟩
    apply List.ext_getElem?
    intro k
    rw [List.getElem?_take]
    split
    · rename_i hk
      have hk' : k < ys.length := by simpa using hk
      have hkc : k < cur.size := by omega
      rw [Array.getElem?_toList, putCells, Array.getElem?_mapIdx, Array.getElem?_eq_getElem hkc, Option.map_some, if_pos ⟨Nat.zero_le _, by simp; omega⟩, List.getElem?_map, List.getElem?_eq_getElem hk']
      simp [hk', List.getElem?_append]
    · rename_i hk
      rw [List.getElem?_eq_none (by simp at hk ⊢; omega)]
theorem putRow_grown {B : Nat} {w : World} {g n cap q : Nat} {zs : List Int} (d : Array Int) (h : OwnI B w (.slice (some ⟨g, 0, none⟩) n cap) zs) : w.grownBy (putRow (Value.int .i64) (Sort.ahead w q) g 0 d) (some g) := by
  rcases h.2 with ⟨hv, _⟩ | ⟨g', cap', cur, hv, hB, hg, _⟩
  · cases hv
  · injection hv with e1 e2 e3
    injection e1 with e1
    injection e1 with e1
    subst e1
    exact ⟨rfl, rfl, rfl, by rw [(heap_putRow d hg).2.2]; exact Nat.le_refl _, fun k _ hk => (heap_putRow d hg).2.1 k (fun e => hk (by rw [e]))⟩
theorem grown_grow (w : World) (os : Array Obj) : Below w.heap.size w (grow w os) := ⟨rfl, rfl, rfl, by show w.heap.size ≤ (w.heap ++ os).size; simp, fun b hb => by show (w.heap ++ os)[b]? = w.heap[b]?; rw [Array.getElem?_append_left hb]⟩
/-- Sorted in place. -/
theorem sort_own {w W : World} {v : Value} {zs : List Int} (h : Way w W v zs) (hl : zs.length ≤ 1000000) : Calls Tryz.prog 36 #[v] W fun e w' => e = .returned (.tuple #[]) ∧ Way w w' v (zs.mergeSort fun x y => decide (x ≤ y)) := by
  rcases h.1.form with ⟨rfl, rfl⟩ | ⟨g, cap, rfl, hB, hg, hcap⟩
  · exact (Tryz.slices_Sort_int_none none 0 W).mono fun e w' ⟨h1, h2⟩ => ⟨h1, by rw [h2, List.mergeSort_nil]; exact ⟨OwnI.nil _ _, h.2⟩⟩
  · refine (Tryz.slices_Sort_int g 0 cap zs W h.1.holds hg (by omega)).mono fun e w' ⟨h1, n, os, h2⟩ => ⟨h1, ?_⟩
    have hp : (zs.mergeSort fun x y => decide (x ≤ y)).length = zs.length := List.length_mergeSort _
    have hw : Way w (putRow (Value.int .i64) (Sort.ahead W n) g 0 (zs.mergeSort fun x y => decide (x ≤ y)).toArray) (.slice (some ⟨g, 0, none⟩) zs.length cap) (zs.mergeSort fun x y => decide (x ≤ y)) := by
      have := own_put (q := n) (tl := []) h.1 (ys := zs.mergeSort fun x y => decide (x ≤ y)) (by rw [hp]; rfl)
      rw [List.append_nil, hp] at this
      exact h.onto this (putRow_grown _ h.1)
    rw [h2]
    exact ⟨hw.1.below (grown_grow _ _), hw.2.trans (grown_grow _ _)⟩
/-- Compacted in place. -/
theorem compact_own {w W : World} {v : Value} {zs : List Int} (h : Way w W v zs) (hl : zs.length ≤ 1000000) : Calls Tryz.prog 37 #[v] W fun e w' => ∃ v', e = .returned v' ∧ Way w w' v' (Lib.compact zs) := by
  rcases h.1.form with ⟨rfl, rfl⟩ | ⟨g, cap, rfl, hB, hg, hcap⟩
  · exact (Tryz.slices_Compact_int_empty none 0 W).mono fun e w' ⟨h1, h2⟩ => ⟨_, h1, by rw [h2]; exact ⟨OwnI.nil _ _, h.2⟩⟩
  · have hlc : (Lib.compact zs).length ≤ zs.length := by
      unfold Lib.compact Lib.compactUpTo
      rw [List.length_map]
      have := List.length_filter_le (Lib.keeps zs.toArray) (List.range zs.length)
      simpa using this
    refine (Tryz.slices_Compact_int g 0 cap zs W h.1.holds (by omega) hcap).mono fun e w' ⟨h1, q, h2⟩ => ⟨_, h1, ?_⟩
    rw [h2]
    exact h.onto (own_put h.1 (by simp; omega)) (putRow_grown _ h.1)
set_option maxRecDepth 100000 in
set_option maxHeartbeats 1000000 in
theorem keysOf_any {base : Nat} {s : Value} {l : List Opr} (w : World) (h : Oprs base w s l) (hl : l.length ≤ 100000) : Calls Tryz.prog 26 #[s] w (OwnNew (keysO l) w) := by
  obtain ⟨p, c, rfl, _, hc⟩ := h.open_
  have HC := Lib.hid hc
  have HE : Hid (∀ v w', Way w w' v (Lib.compact ((l.map Opr.k).mergeSort fun x y => decide (x ≤ y))) → OwnNew (keysO l) w (.returned v) w') := Lib.hid fun v w' h1 => ⟨v, rfl, by rw [compact_sort] at h1; exact h1.1, h1.2⟩
  clear h hc
  generalize OwnNew (keysO l) w = Post at HE ⊢
  go_enter Tryz.func26, Tryz.ntmps26
  go_wp2
  go_loopw [3, 8] (fun s3 s8 wr => ∃ k : Nat, s8 = .int .i64 k ∧ k ≤ l.length ∧ Hid (Way w wr s3 ((l.take k).map Opr.k))) (fun _ s8 _ => l.length - (intOf s8).toNat)
  case atStart => exact ⟨0, rfl, Nat.zero_le _, Lib.hid Way.nil⟩
  case round =>
    obtain ⟨k, rfl, hk, HW⟩ := hrel
    by_cases hlt : k < l.length
    · obtain ⟨g', o', rfl, _, hg', c0, c1, c2, c3⟩ := HC.out k hlt
      have d0 := HW.out.2.cell hg' c0
      have d1 := HW.out.2.cell hg' c1
      have d2 := HW.out.2.cell hg' c2
      have d3 := HW.out.2.cell hg' c3
      have HS : Hid ((l.take (k + 1)).map Opr.k = (l.take k).map Opr.k ++ [(l.getD k Opr.zero).k]) := Lib.hid (by rw [take_snoc l Opr.zero k hlt, List.map_append]; rfl)
      have hlm : ((l.take k).map Opr.k).length ≤ 100000 := by rw [List.length_map, List.length_take]; omega
      have HW2 : Hid (∀ o, Way w (wr.alloc o) u3 ((l.take k).map Opr.k)) := Lib.hid fun o => HW.out.lay o
      clear c0 c1 c2 c3
      generalize l.getD k Opr.zero = x at d0 d1 d2 d3 HS
      go_wp2_with (at_builtin; refine append_ints rfl (.tmp 12) (.tmp 15) rfl ((HW2.out _).lay _).2.size ((HW2.out _).lay _).1 rfl (int_at x.k (heap_alloc_at _ _ _ (by simp))) (fun n c e => by cases e) rfl (by simp only [List.length_cons, List.length_nil]; omega) ?_; intro v2 w2 h1 h2 _; have H3 : Hid (Way w w2 v2 ((l.take (k + 1)).map Opr.k)) := Lib.hid (by rw [HS.out]; exact Way.onto ((HW2.out _).lay _) h1 h2); clear h1 h2)
      go_roundw
      case rel => exact ⟨k + 1, by go_num, by omega, H3⟩
      case measure => simp [intOf]; omega
    · have HW2 : Hid (Way w wr u3 (l.map Opr.k)) := Lib.hid (by
        have := HW.out
        rwa [List.take_of_length_le (by omega)] at this)
      have hlm : (l.map Opr.k).length ≤ 1000000 := by rw [List.length_map]; omega
      clear HW
      go_wp2_with (first
        | (go_at_call 36; refine (sort_own HW2.out hlm).mono ?_; rintro e w1 ⟨rfl, h1⟩; have H1 := Lib.hid h1; clear h1)
        | (go_at_call 37; refine (compact_own H1.out (by rw [List.length_mergeSort]; exact hlm)).mono ?_; rintro e w2 ⟨v2, rfl, h2⟩; have H2 := Lib.hid h2; clear h2))
      exact HE.out _ _ H2.out
end Go.Proofs.YtaogofjnpnheeaaGreatDoor.Tx
