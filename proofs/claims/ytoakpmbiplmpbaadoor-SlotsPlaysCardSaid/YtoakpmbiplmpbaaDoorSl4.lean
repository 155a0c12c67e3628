/-
  Contracts of slots: List. Not a statement of the seat.
-/
import Derived.Test.YtoakpmbiplmpbaaDoorSl3
namespace Go.Proofs.YtoakpmbiplmpbaaDoor.Sl
open Go.ChangeShapes Go.WideShapes Go.ChangeAt Go.RowKit Go.Maps Base Bits Mp F
variable {w : World} {b mb ib tb tg : Nat} {l : List Int}
theorem rowInts_at (n V j : Nat) (h : j < (rowInts n V).length) : ∃ m : Nat, (rowInts n V).getD j 0 = (m : Int) ∧ m < n := by
  unfold rowInts at h ⊢
  rw [List.length_map] at h
  refine ⟨(placesTo V n)[j], by simp [List.getD_eq_getElem?_getD, h], ?_⟩
  have hm := List.getElem_mem h
  unfold placesTo at hm
  rw [List.mem_filter, List.mem_range] at hm
  exact hm.1
theorem map_take {α β : Type} (f : α → β) (d : α) {xs : List α} {j : Nat} (h : j < xs.length) : (xs.take (j + 1)).map f = (xs.take j).map f ++ [f (xs.getD j d)] := by
  rw [List.take_add_one, List.map_append, List.getElem?_eq_getElem h]
  simp [List.getD_eq_getElem?_getD, h]
def TabW (w : World) : Prop := TabAt 0 Lib.deBruijn64tab w ∧ 0 < w.heap.size
theorem TabW.below {w w1 : World} (h : TabW w) (hb : Below w.heap.size w w1) : TabW w1 := ⟨fun j hj => (hb.cell (p := ⟨_, j, none⟩) h.2).trans (h.1 j hj), Nat.lt_of_lt_of_le h.2 hb.size⟩
theorem box1 (W : World) (a b c : Value) (t : TypeId) : (W.alloc (.cells #[a, b, c] t)).cell? ⟨W.heap.size, 1, none⟩ = some b := by
  simp only [World.cell?, heap_alloc_at W (.cells #[a, b, c] t) W.heap.size rfl]
  rfl
theorem own_mono {B B' : Nat} {w : World} {v : Value} {zs : List Pai} (h : OwnPai B w v zs) (hb : B' ≤ B) : OwnPai B' w v zs := by
  refine ⟨h.1, ?_⟩
  rcases h.2 with h | ⟨g, cap, cur, h1, h2, h3⟩
  · exact .inl h
  · exact .inr ⟨g, cap, cur, h1, Nat.le_trans hb h2, h3⟩
def prL (l : List Int) (j : Int) : Pai := ⟨j, l.getD j.toNat 0⟩
set_option maxHeartbeats 2000000 in
set_option maxRecDepth 100000 in
theorem list_sl (h : SlAt w b mb ib tb tg l) (hT : TabW w) : Calls Tryd.prog 40 #[.pointer (some ⟨b, 0, none⟩)] w (PaiNew (pairsL l) w) := by
  have HH := Lib.hid (held_any h)
  have hl4 : l.length ≤ 4096 := h.2.2.2.2.1
  have hrl := rowInts_len l.length (takenV l)
  have HRL : Hid (∀ X, Below w.heap.size w X → Calls Tryd.prog 24 #[.pointer (some ⟨tb, 0, none⟩)] X (fun e w' => (∃ v, e = .returned v ∧ Lst.OwnI X.heap.size w' v (rowInts l.length (takenV l))) ∧ Below X.heap.size X w')) := Lib.hid fun X hX =>
    rowList_any tb tg l.length (takenV l) X (h.2.2.2.1.below hX) (hT.below hX).1 (hT.below hX).2
  have HX := Lib.hid (rowInts_at l.length (takenV l))
  have HP := pairs_row l
  have HC : Hid (∀ m, m < l.length → w.cell? ⟨ib, m, none⟩ = some (.int .i32 (l.getD m 0)) ∧ IntKind.i64.wrap (l.getD m 0) = l.getD m 0) := Lib.hid fun m hm => ⟨(h.id hm).1, i64_in (by have := h.2.2.2.2.2.1 m hm; omega)⟩
  have hi0 := h.lt.2.2.1
  rw [← HP]
  change Calls _ _ _ _ (PaiNew ((rowInts l.length (takenV l)).map (prL l)) w)
  generalize rowInts l.length (takenV l) = xs at HRL HX hrl ⊢
  obtain ⟨n, hn⟩ : ∃ n, n = l.length := ⟨_, rfl⟩
  rw [← hn] at HH hl4 hrl HX HC
  clear h hT HP hn
  go_enter Tryd.func40, Tryd.ntmps40
  go_wp2_with fail
  refine (HH.out).mono ?_
  rintro e w1 ⟨rfl, hb⟩
  have HB := Lib.hid hb
  clear hb HH
  have HBX : Hid (∀ o, Below w.heap.size w (w1.alloc o)) := Lib.hid fun o => below_box HB.out o
  go_wp2_with fail
  refine (HRL.out _ (HBX.out _)).mono ?_
  rintro e w2 ⟨⟨lv, rfl, hv⟩, hb⟩
  have hint := hv.ints (by omega)
  obtain ⟨lp, lc, rfl, hll, hcells⟩ := hint.open_
  have HV := Lib.hid hcells
  have HB2 : Hid (Below w.heap.size w w2) := Lib.hid ((HBX.out _).trans (hb.mono (HBX.out _).size))
  have hbox : w2.cell? ⟨w1.heap.size, 1, none⟩ = some (.slice (some ⟨ib, 0, none⟩) n n) := (hb.cell (p := ⟨w1.heap.size, 1, none⟩) (by simp)).trans (box1 w1 _ _ _ _)
  have hbl : w1.heap.size < w2.heap.size := by have := hb.size; simp at this; omega
  have HBOX := Lib.hid hbox
  have HW2 : Hid (∀ X, Below w2.heap.size w2 X → Below w.heap.size w X) := Lib.hid fun X hX => HB2.out.trans (hX.mono HB2.out.size)
  have hsz2 := HB2.out.size
  have H0 : Hid (OwnPai w2.heap.size w2 (.slice none 0 0) ((xs.take 0).map (prL l)) ∧ Below w2.heap.size w2 w2) := Lib.hid ⟨OwnPai.nil _ _, Below.refl _ _⟩
  clear hv hint hcells hb HRL HB HBX hbox
  go_wp2_with fail
  go_loopw [4, 6, 13] (fun s4 _ s13 wr => ∃ (j : Nat) (v : Value), s13 = .int .i64 (j : Int) ∧ v = s4 ∧ j ≤ xs.length ∧ Hid (OwnPai w2.heap.size wr v ((xs.take j).map (prL l)) ∧ Below w2.heap.size w2 wr)) (fun _ _ s13 _ => xs.length - (intOf s13).toNat)
  case atStart => exact ⟨0, _, rfl, rfl, Nat.zero_le _, H0⟩
  case round =>
    obtain ⟨j, v, rfl, rfl, hj, HO⟩ := hrel
    by_cases hlt : j < xs.length
    · obtain ⟨g', o', rfl, _, hg', hcell⟩ := HV.out j hlt
      obtain ⟨m, hm, hmn⟩ := HX.out j hlt
      have hcell := (HO.out.2.cell (p := ⟨g', o' + j, none⟩) hg').trans hcell
      rw [hm] at hcell
      have hc2 := (HO.out.2.cell (p := ⟨ib, m, none⟩) (Nat.lt_of_lt_of_le hi0 hsz2)).trans ((HB2.out.cell (p := ⟨ib, m, none⟩) hi0).trans (HC.out m hmn).1)
      have hbx := (HO.out.2.cell (p := ⟨w1.heap.size, 1, none⟩) hbl).trans HBOX.out
      have hwr := (HC.out m hmn).2
      have HST : Hid ((xs.take (j + 1)).map (prL l) = (xs.take j).map (prL l) ++ [⟨(m : Int), l.getD m 0⟩]) := Lib.hid (by rw [map_take (prL l) 0 hlt, hm]; rfl)
      have hzl : ((xs.take j).map (prL l)).length ≤ 5000 := by rw [List.length_map, List.length_take]; omega
      generalize l.getD m 0 = x at hc2 hwr HST
      generalize (xs.take j).map (prL l) = zs at HO HST hzl
      have hbz := HO.out.2.size
      clear hm hg'
      go_wp2_with (at_builtin; refine append_pais rfl (.tmp 17) (.tmp 26) rfl (Nat.le_trans hbz (by simp)) (HO.out.1.below (by go_grown)) rfl (pai_at ⟨(m : Int), x⟩ (heap_alloc_at _ _ _ (by simp))) rfl (by simp; omega) ?_; intro v2 w3 ho hg2 _)
      have HA := Lib.hid (app_step HO.out.2 HO.out.1 (by go_grown) ho hg2)
      have HO2 : Hid (OwnPai w2.heap.size w3 v2 ((xs.take (j + 1)).map (prL l)) ∧ Below w2.heap.size w2 w3) := Lib.hid ⟨by rw [HST.out]; exact HA.out.1, HA.out.2.1⟩
      clear ho hg2 HA HO HST
      go_wp2_with fail
      go_roundw
      case rel => exact ⟨j + 1, v2, by go_num, rfl, by omega, HO2⟩
      case measure => simp [intOf]; omega
    · have e : j = xs.length := by omega
      subst e
      clear HV HX HC
      go_wp2
      go_ret
      refine ⟨_, rfl, ?_, HW2.out _ HO.out.2⟩
      have h := HO.out.1
      rw [List.take_length] at h
      exact own_mono h hsz2
end Go.Proofs.YtoakpmbiplmpbaaDoor.Sl
