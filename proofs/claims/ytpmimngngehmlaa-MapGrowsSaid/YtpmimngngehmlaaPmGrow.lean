/-
  MapGrows, walked over what lives tells. Not a statement of the seat.
-/
import Derived.Test.YtpmimngngehmlaaPmSt
import Derived.Lib.QuietBelow
import Derived.BigQuiet
namespace Go.Proofs.Ytpmimngngehmlaa.mapGrows
open Go.ChangeShapes Go.WideShapes Go.ChangeAt Go.RowKit Go.Sort Base F BigFrame
/-- What the tree has behind k puts. -/
def GT (k : Nat) (zs : List Cel) (t : Tre) (root : Int) : Prop := Tr zs t root ∧ SortL t.list ∧ t.bal ∧ t.size ≤ k ∧ zs.length ≤ 52 * k ∧ (0 < k → 0 < t.size) ∧ t.size ≤ 500000
theorem gt_nil : GT 0 [] .nil 0 := ⟨rfl, List.Pairwise.nil, trivial, Nat.le_refl _, Nat.le_refl _, fun h => absurd h (Nat.lt_irrefl _), Nat.zero_le _⟩
theorem gt_high {k : Nat} {zs : List Cel} {t : Tre} {root : Int} (hk : k ≤ 400) (h : GT k zs t root) : t.high ≤ 17 := high_le h.2.2.1 (n := 400) (Nat.le_trans h.2.2.2.1 hk) (by decide)
theorem gt_next {k : Nat} {zs zs2 : List Cel} {t : Tre} {root rt2 why key val : Int} (hk : k < 400) (h : GT k zs t root) (hM : MRes (PutP zs (3 * t.high + 1) (Tre.ins key val t)) (65536 < zs.length + (3 * t.high + 1)) zs zs2 rt2 why) : why = 0 ∧ GT k.succ zs2 (Tre.ins key val t) rt2 := by
  have h17 := gt_high (Nat.le_of_lt hk) h
  obtain ⟨h1, h2, h3, h4, h5, h6, h7⟩ := h
  have hi := ins_size1 key val t
  rcases hM with ⟨h0, ⟨new, he, hn⟩, ht⟩ | ⟨_, _, _, hz⟩
  · refine ⟨h0, ht, (link key val t h2).2.1, (Tre.ins_bal key val h3).1, by omega, ?_, fun _ => by omega, by omega⟩
    rw [he, List.length_append]; omega
  · omega
theorem rem_bd (a : Int) (N : Nat) (h : 0 < N) (hN : N ≤ 400) (ha : 0 ≤ a) : 0 ≤ a.tmod (N : Int) ∧ a.tmod (N : Int) < 400 := ⟨Int.tmod_nonneg _ ha, Int.lt_of_lt_of_le (Int.tmod_lt_of_pos _ (by omega)) (by omega)⟩
set_option maxHeartbeats 40000000 in
set_option maxRecDepth 100000 in
theorem main (HLV : ∀ w : World, Calls Try.prog 12 #[] w fun e w' => e = .returned (.bool true) ∧ Below w.heap.size w w')
    (N : Nat) (jump : Int) (w : World) (hN : N ≤ 400) (hj1 : 1 ≤ jump) (hj2 : jump ≤ 400) :
    Calls Try.prog 5 #[.int .i64 (N : Int), .int .i64 jump] w fun e w' => e = .returned (.bool true) ∧ Below w.heap.size w w' := by
  go_enter Try.func5, Try.ntmps5
  go_wp2_with fail
  refine (HLV w).mono ?_
  rintro e wl ⟨rfl, hbl⟩
  have B0 := Lib.hid hbl
  clear hbl
  go_wp2_with fail
  refine (arnew_any 65536 wl).mono ?_
  rintro e w1 ⟨rfl, hA, hb⟩
  rw [show roomOf 65536 = 65536 by decide] at hA
  have P0 : Hid (PS w w1 (.pointer (some ⟨wl.heap.size, 0, none⟩)) none 65536 [] (.slice none 0 0) [] []) := Lib.hid ⟨AI.new hA (B0.out.trans (hb.mono B0.out.size)) B0.out.size, QS.nil _ _ _, fun p hp => by cases hp⟩
  clear hA hb
  go_wp2_with fail
  refine (pmnew P0.out.1.1).mono ?_
  rintro e w2 ⟨rfl, hb⟩
  have P1 := Lib.hid ((P0.out.below hb).add (boxM (.pointer (some ⟨wl.heap.size, 0, none⟩)) 0))
  have D2 : Hid (w.heap.size ≤ w2.heap.size) := Lib.hid (Nat.le_trans P0.out.1.2.1.size hb.size)
  clear hb P0
  go_wp2_with fail
  go_loopw [7] (fun s7 wr => ∃ (k : Nat) (o : Option Nat) (zs : List Cel) (t : Tre) (root : Int), s7 = .int .i64 (k : Int) ∧ k ≤ N ∧ Hid (GT k zs t root) ∧ Hid (PS w wr (.pointer (some ⟨wl.heap.size, 0, none⟩)) o 65536 zs (.slice none 0 0) [] [(w2.heap.size, boxM (.pointer (some ⟨wl.heap.size, 0, none⟩)) root)])) (fun s7 _ => N - (intOf s7).toNat)
  case atStart => exact ⟨0, none, [], .nil, 0, rfl, Nat.zero_le _, Lib.hid gt_nil, P1⟩
  case round =>
    clear P1
    obtain ⟨k, o, zs, t, root, rfl, hk, HG, P0⟩ := hrel
    by_cases hlt : k < N
    · have hkN : k < 400 := by omega
      have hm : (0 : Int) ≤ (k : Int) * jump ∧ (k : Int) * jump ≤ 400 * 400 := ⟨Int.mul_nonneg (by omega) (by omega), Int.mul_le_mul (by omega) hj2 (by omega) (by omega)⟩
      have hr := rem_bd ((k : Int) * jump) N (by omega) hN hm.1
      have HK : Hid (Pai.ok ⟨((k : Int) * jump).tmod (N : Int), (k : Int)⟩) := Lib.hid (by unfold Pai.ok; simp only; omega)
      have e1 : IntKind.i64.wrap ((k : Int) * jump) = (k : Int) * jump := IntWalk.i64_in _ (by omega)
      have e2 : IntKind.i64.wrap (((k : Int) * jump).tmod (N : Int)) = ((k : Int) * jump).tmod (N : Int) := IntWalk.i64_in _ (by omega)
      have e3 : ¬ N = 0 := by omega
      clear hm hr
      go_upto_region 12 with fail
      go_cut [8, 9] (fun s8 s9 wx => ∃ (g8 : Nat) (o2 : Option Nat) (zs2 : List Cel) (T : Tre) (rt2 : Int), s8 = .pointer (some ⟨g8, 0, none⟩) ∧ s9 = .int .i64 0 ∧ Hid (PS w wx (.pointer (some ⟨wl.heap.size, 0, none⟩)) o2 65536 zs2 (.slice none 0 0) [] ((g8, boxM (.pointer (some ⟨wl.heap.size, 0, none⟩)) rt2) :: [(w2.heap.size, boxM (.pointer (some ⟨wl.heap.size, 0, none⟩)) root)]) ∧ GT k.succ zs2 T rt2 ∧ w2.heap.size ≠ g8 ∧ w.heap.size ≤ g8))
      case first =>
        have P1 := Lib.hid (P0.out.below (Below.refl _ _).drew)
        refine wp_region_held_drew (S := (fun X => X.cell? ⟨w2.heap.size, 0, none⟩ = some (.pointer (some ⟨wl.heap.size, 0, none⟩)) ∧ X.cell? ⟨w2.heap.size, 1, none⟩ = some (.int .i64 root))) (by kernel_rfl) (cellsM (P1.out.2.2 (w2.heap.size, boxM (.pointer (some ⟨wl.heap.size, 0, none⟩)) root) (by simp)).1).2 (fun hHeld0 => ?_)
        refine wpAnyH_take (i := 0) (v := ?_) rfl (by kernel_rfl) (by kernel_rfl) (by kernel_rfl) (fun _ _ _ h => h) (Or.inl ⟨by rfl, ?ymg1⟩) (by assumption) ?qmg1
        case ymg1 => (intro wz hSw; (try dsimp only at hSw); go_simp <;> with_reducible rfl)
        try simp only [Act.put, List.getElem_toArray, List.getElem_cons_zero, List.setIfInBounds_toArray, List.set_cons_zero, List.set_cons_succ]
        refine wpAnyH_take (i := 1) (v := ?_) rfl (by kernel_rfl) (by kernel_rfl) (by kernel_rfl) (fun _ _ _ h => h) (Or.inl ⟨by rfl, ?ymg2⟩) (by assumption) ?qmg2
        case ymg2 => (intro wz hSw; (try dsimp only at hSw); go_simp <;> with_reducible rfl)
        try simp only [Act.put, List.getElem_toArray, List.getElem_cons_zero, List.getElem_cons_succ, List.setIfInBounds_toArray, List.set_cons_zero, List.set_cons_succ]
        refine wpAnyH_take (i := 2) (v := ?_) rfl (by kernel_rfl) (by kernel_rfl) (by kernel_rfl) (fun _ _ _ h => h) (Or.inl ⟨by rfl, ?ymg3⟩) (by assumption) ?qmg3
        case ymg3 => (intro wz hSw; (try dsimp only at hSw); go_simp <;> with_reducible rfl)
        try simp only [Act.put, List.getElem_toArray, List.getElem_cons_zero, List.getElem_cons_succ, List.setIfInBounds_toArray, List.set_cons_zero, List.set_cons_succ]
        refine wpAnyH_take (i := 3) (v := ?_) rfl (by kernel_rfl) (by kernel_rfl) (by kernel_rfl) (fun _ _ _ h => h) (Or.inl ⟨by rfl, ?ymg4⟩) (by assumption) ?qmg4
        case ymg4 => (intro wz hSw; (try dsimp only at hSw); go_simp <;> with_reducible rfl)
        try simp only [Act.put, List.getElem_toArray, List.getElem_cons_zero, List.getElem_cons_succ, List.setIfInBounds_toArray, List.set_cons_zero, List.set_cons_succ]
        refine wpAnyH_take (i := 4) (v := ?_) rfl (by kernel_rfl) (by kernel_rfl) (by kernel_rfl) (fun _ _ _ h => h) (Or.inl ⟨by rfl, ?ymg5⟩) (by assumption) ?qmg5
        case ymg5 => (intro wz hSw; (try dsimp only at hSw); go_simp <;> with_reducible rfl)
        try simp only [Act.put, List.getElem_toArray, List.getElem_cons_zero, List.getElem_cons_succ, List.setIfInBounds_toArray, List.set_cons_zero, List.set_cons_succ]
        refine wpAnyH_take (i := 5) (v := ?_) rfl (by kernel_rfl) (by kernel_rfl) (by kernel_rfl) (fun _ _ _ h => h) (Or.inl ⟨by rfl, ?ymg6⟩) (by assumption) ?qmg6
        case ymg6 => (intro wz hSw; (try dsimp only at hSw); go_simp <;> with_reducible rfl)
        try simp only [Act.put, List.getElem_toArray, List.getElem_cons_zero, List.getElem_cons_succ, List.setIfInBounds_toArray, List.set_cons_zero, List.set_cons_succ]
        refine wpAnyH_take (i := 6) (v := ?_) rfl (by kernel_rfl) (by kernel_rfl) (by kernel_rfl) (fun _ _ _ h => h) (Or.inl ⟨by rfl, ?ymg7⟩) (by assumption) ?qmg7
        case ymg7 => (intro wz hSw; (try dsimp only at hSw); go_simp <;> with_reducible rfl)
        try simp only [Act.put, List.getElem_toArray, List.getElem_cons_zero, List.getElem_cons_succ, List.setIfInBounds_toArray, List.set_cons_zero, List.set_cons_succ]
        refine wpAnyH_ready (rs := [7, 11]) (by kernel_rfl) (by simp) ?_
        refine AllReadyH.cons rfl (fun K hK => ?bmg8) ?cmg8
        case bmg8 =>
          go_simp
          refine (pmput ⟨((k : Int) * jump).tmod (N : Int), (k : Int)⟩ HK.out P1.out.1.1 (t := t) (root := root) HG.out.1 HG.out.2.2.2.2.2.2).mono ?_
          intro e wn8 hp
          obtain ⟨rt2, why, zs2, hs, hM⟩ := hp.step
          obtain ⟨rfl, o2, J8⟩ := P1.out.step hs
          have H2 : Hid (why = 0 ∧ GT k.succ zs2 (Tre.ins (((k : Int) * jump).tmod (N : Int)) (k : Int) t) rt2) := Lib.hid (gt_next hkN HG.out hM.out)
          obtain rfl : why = 0 := H2.out.1
          clear hp hs hM
          try go_wp2_with fail
          refine hK.out _ _ ((cellsM (J8.out.2.2 (w2.heap.size, boxM (.pointer (some ⟨wl.heap.size, 0, none⟩)) root) (by simp)).1).2) (fun hHeld8 => ?_)
          clear hK K
          try simp only [Act.put, List.getElem_toArray, List.getElem_cons_zero, List.getElem_cons_succ, List.setIfInBounds_toArray, List.set_cons_zero, List.set_cons_succ]
          refine wpAnyH_take (i := 8) (v := ?_) rfl (by kernel_rfl) (by kernel_rfl) (by kernel_rfl) (fun _ _ _ h => h) (Or.inl ⟨by rfl, ?ymg9⟩) (by assumption) ?qmg9
          case ymg9 => (intro wz hSw; (try dsimp only at hSw); go_simp <;> with_reducible rfl)
          try simp only [Act.put, List.getElem_toArray, List.getElem_cons_zero, List.getElem_cons_succ, List.setIfInBounds_toArray, List.set_cons_zero, List.set_cons_succ]
          refine wpAnyH_take (i := 9) (v := ?_) rfl (by kernel_rfl) (by kernel_rfl) (by kernel_rfl) (fun _ _ _ h => h) (Or.inl ⟨by rfl, ?ymg10⟩) (by assumption) ?qmg10
          case ymg10 => (intro wz hSw; (try dsimp only at hSw); go_simp <;> with_reducible rfl)
          try simp only [Act.put, List.getElem_toArray, List.getElem_cons_zero, List.getElem_cons_succ, List.setIfInBounds_toArray, List.set_cons_zero, List.set_cons_succ]
          refine wpAnyH_take (i := 10) (v := ?_) rfl (by kernel_rfl) (by kernel_rfl) (by kernel_rfl) (fun _ _ _ h => h) (Or.inl ⟨by rfl, ?ymg11⟩) (by assumption) ?qmg11
          case ymg11 => (intro wz hSw; (try dsimp only at hSw); go_simp <;> with_reducible rfl)
          try simp only [Act.put, List.getElem_toArray, List.getElem_cons_zero, List.getElem_cons_succ, List.setIfInBounds_toArray, List.set_cons_zero, List.set_cons_succ]
          refine wpAnyH_ready (rs := [11]) (by kernel_rfl) (by simp) ?_
          refine AllReadyH.cons rfl (fun K hK => ?_) AllReadyH.nil
          rw [if_pos (by rfl)]
          refine wp_alloc_map rfl ?_
          intro g8 wn12 hg12 hw12
          have D8 : Hid (w2.heap.size ≠ g8 ∧ w.heap.size ≤ g8) := Lib.hid (by rw [hg12]; exact ⟨fun e => Nat.lt_irrefl _ (Nat.lt_of_lt_of_eq (heap_lt (J8.out.2.2 (w2.heap.size, boxM (.pointer (some ⟨wl.heap.size, 0, none⟩)) root) (by simp)).1) e.symm), J8.out.1.2.1.size⟩)
          have J12 := Lib.hid (show PS w wn12 (.pointer (some ⟨wl.heap.size, 0, none⟩)) _ 65536 _ (.slice none 0 0) [] ((g8, boxM (.pointer none) 0) :: [(w2.heap.size, boxM (.pointer (some ⟨wl.heap.size, 0, none⟩)) root)]) from (by rw [hg12, hw12]; exact J8.out.add _))
          clear hg12 hw12
          refine hK.out _ _ ((cellsM (J12.out.2.2 (w2.heap.size, boxM (.pointer (some ⟨wl.heap.size, 0, none⟩)) root) (by simp)).1).2) (fun hHeld12 => ?_)
          clear hK K
          try simp only [Act.put, List.getElem_toArray, List.getElem_cons_zero, List.getElem_cons_succ, List.setIfInBounds_toArray, List.set_cons_zero, List.set_cons_succ]
          refine wpAnyH_ready (rs := [12]) (by kernel_rfl) (by simp) ?_
          refine AllReadyH.cons rfl (fun K hK => ?_) AllReadyH.nil
          rw [if_pos (by rfl)]
          refine wp_store_map (.tmp 8) (.tmp 49) rfl g8 (some ⟨wl.heap.size, 0, none⟩) none rt2 0 rfl rfl (J12.out.2.2 (g8, boxM (.pointer none) 0) (by simp)).1 ?_
          intro wn13 hst
          have J13 := Lib.hid (J12.out.store (by simpa using D8.out.1) D8.out.2 hst)
          clear hst
          refine hK.out _ _ ((cellsM (J13.out.2.2 (w2.heap.size, boxM (.pointer (some ⟨wl.heap.size, 0, none⟩)) root) (by simp)).1).2) (fun hHeld13 => ?_)
          clear hK K
          try simp only [Act.put, List.getElem_toArray, List.getElem_cons_zero, List.getElem_cons_succ]
          refine wpAnyH_take (i := 13) (v := ?_) rfl (by kernel_rfl) (by kernel_rfl) (by kernel_rfl) (fun _ _ _ h => h) (Or.inl ⟨by rfl, ?ymg14⟩) (by assumption) ?qmg14
          case ymg14 => (intro wz hSw; (try dsimp only at hSw); go_simp <;> with_reducible rfl)
          try simp only [Act.put, List.getElem_toArray, List.getElem_cons_zero, List.getElem_cons_succ, List.setIfInBounds_toArray, List.set_cons_zero, List.set_cons_succ]
          refine wpAnyH_done (by kernel_rfl) ?_ _
          go_wp2_with fail
          go_meet
          case rel => exact ⟨g8, o2, zs2, _, rt2, rfl, rfl, Lib.hid ⟨J13.out, H2.out.2, D8.out⟩⟩
        refine AllReadyH.cons rfl (fun K hK => ?bmg15) ?cmg15
        case bmg15 =>
          rw [if_pos (by rfl)]
          refine wp_alloc_map rfl ?_
          intro g8 wn15 hg15 hw15
          have D8 : Hid (w2.heap.size ≠ g8 ∧ w.heap.size ≤ g8) := Lib.hid (by rw [hg15]; exact ⟨fun e => Nat.lt_irrefl _ (Nat.lt_of_lt_of_eq (heap_lt (P1.out.2.2 (w2.heap.size, boxM (.pointer (some ⟨wl.heap.size, 0, none⟩)) root) (by simp)).1) e.symm), P1.out.1.2.1.size⟩)
          have J15 := Lib.hid (show PS w wn15 (.pointer (some ⟨wl.heap.size, 0, none⟩)) _ 65536 _ (.slice none 0 0) [] ((g8, boxM (.pointer none) 0) :: [(w2.heap.size, boxM (.pointer (some ⟨wl.heap.size, 0, none⟩)) root)]) from (by rw [hg15, hw15]; exact P1.out.add _))
          clear hg15 hw15
          refine hK.out _ _ ((cellsM (J15.out.2.2 (w2.heap.size, boxM (.pointer (some ⟨wl.heap.size, 0, none⟩)) root) (by simp)).1).2) (fun hHeld15 => ?_)
          clear hK K
          try simp only [Act.put, List.getElem_toArray, List.getElem_cons_zero, List.getElem_cons_succ, List.setIfInBounds_toArray, List.set_cons_zero, List.set_cons_succ]
          refine wpAnyH_ready (rs := [7]) (by kernel_rfl) (by simp) ?_
          refine AllReadyH.cons rfl (fun K hK => ?_) AllReadyH.nil
          go_simp
          refine (pmput ⟨((k : Int) * jump).tmod (N : Int), (k : Int)⟩ HK.out J15.out.1.1 (t := t) (root := root) HG.out.1 HG.out.2.2.2.2.2.2).mono ?_
          intro e wn16 hp
          obtain ⟨rt2, why, zs2, hs, hM⟩ := hp.step
          obtain ⟨rfl, o2, J16⟩ := J15.out.step hs
          have H2 : Hid (why = 0 ∧ GT k.succ zs2 (Tre.ins (((k : Int) * jump).tmod (N : Int)) (k : Int) t) rt2) := Lib.hid (gt_next hkN HG.out hM.out)
          obtain rfl : why = 0 := H2.out.1
          clear hp hs hM
          try go_wp2_with fail
          refine hK.out _ _ ((cellsM (J16.out.2.2 (w2.heap.size, boxM (.pointer (some ⟨wl.heap.size, 0, none⟩)) root) (by simp)).1).2) (fun hHeld16 => ?_)
          clear hK K
          try simp only [Act.put, List.getElem_toArray, List.getElem_cons_zero, List.getElem_cons_succ, List.setIfInBounds_toArray, List.set_cons_zero, List.set_cons_succ]
          refine wpAnyH_take (i := 8) (v := ?_) rfl (by kernel_rfl) (by kernel_rfl) (by kernel_rfl) (fun _ _ _ h => h) (Or.inl ⟨by rfl, ?ymg17⟩) (by assumption) ?qmg17
          case ymg17 => (intro wz hSw; (try dsimp only at hSw); go_simp <;> with_reducible rfl)
          try simp only [Act.put, List.getElem_toArray, List.getElem_cons_zero, List.getElem_cons_succ, List.setIfInBounds_toArray, List.set_cons_zero, List.set_cons_succ]
          refine wpAnyH_take (i := 9) (v := ?_) rfl (by kernel_rfl) (by kernel_rfl) (by kernel_rfl) (fun _ _ _ h => h) (Or.inl ⟨by rfl, ?ymg18⟩) (by assumption) ?qmg18
          case ymg18 => (intro wz hSw; (try dsimp only at hSw); go_simp <;> with_reducible rfl)
          try simp only [Act.put, List.getElem_toArray, List.getElem_cons_zero, List.getElem_cons_succ, List.setIfInBounds_toArray, List.set_cons_zero, List.set_cons_succ]
          refine wpAnyH_take (i := 10) (v := ?_) rfl (by kernel_rfl) (by kernel_rfl) (by kernel_rfl) (fun _ _ _ h => h) (Or.inl ⟨by rfl, ?ymg19⟩) (by assumption) ?qmg19
          case ymg19 => (intro wz hSw; (try dsimp only at hSw); go_simp <;> with_reducible rfl)
          try simp only [Act.put, List.getElem_toArray, List.getElem_cons_zero, List.getElem_cons_succ, List.setIfInBounds_toArray, List.set_cons_zero, List.set_cons_succ]
          refine wpAnyH_ready (rs := [12]) (by kernel_rfl) (by simp) ?_
          refine AllReadyH.cons rfl (fun K hK => ?_) AllReadyH.nil
          rw [if_pos (by rfl)]
          refine wp_store_map (.tmp 8) (.tmp 49) rfl g8 (some ⟨wl.heap.size, 0, none⟩) none rt2 0 rfl rfl (J16.out.2.2 (g8, boxM (.pointer none) 0) (by simp)).1 ?_
          intro wn20 hst
          have J20 := Lib.hid (J16.out.store (by simpa using D8.out.1) D8.out.2 hst)
          clear hst
          refine hK.out _ _ ((cellsM (J20.out.2.2 (w2.heap.size, boxM (.pointer (some ⟨wl.heap.size, 0, none⟩)) root) (by simp)).1).2) (fun hHeld20 => ?_)
          clear hK K
          try simp only [Act.put, List.getElem_toArray, List.getElem_cons_zero, List.getElem_cons_succ]
          refine wpAnyH_take (i := 13) (v := ?_) rfl (by kernel_rfl) (by kernel_rfl) (by kernel_rfl) (fun _ _ _ h => h) (Or.inl ⟨by rfl, ?ymg21⟩) (by assumption) ?qmg21
          case ymg21 => (intro wz hSw; (try dsimp only at hSw); go_simp <;> with_reducible rfl)
          try simp only [Act.put, List.getElem_toArray, List.getElem_cons_zero, List.getElem_cons_succ, List.setIfInBounds_toArray, List.set_cons_zero, List.set_cons_succ]
          refine wpAnyH_done (by kernel_rfl) ?_ _
          go_wp2_with fail
          go_meet
          case rel => exact ⟨g8, o2, zs2, _, rt2, rfl, rfl, Lib.hid ⟨J20.out, H2.out.2, D8.out⟩⟩
        exact AllReadyH.nil
      case rest =>
        obtain ⟨g8, o2, zs2, T, rt2, rfl, rfl, JC⟩ := hcut
        clear e1 e2 e3 P0
        obtain ⟨hg8, x0, x1⟩ := cellsM (JC.out.1.2.2 (g8, boxM (.pointer (some ⟨wl.heap.size, 0, none⟩)) rt2) (by simp)).1
        have HB : Hid (PS w wc (.pointer (some ⟨wl.heap.size, 0, none⟩)) o2 65536 zs2 (.slice none 0 0) [] [(w2.heap.size, boxM (.pointer (some ⟨wl.heap.size, 0, none⟩)) root)]) := Lib.hid (JC.out.1.drop (fun p hp => List.mem_cons_of_mem _ hp))
        go_wp2_with (refine wpList_store_map rfl (.tmp 6) (.tmp 53) rfl w2.heap.size (some ⟨wl.heap.size, 0, none⟩) (some ⟨wl.heap.size, 0, none⟩) rt2 root rfl rfl (HB.out.2.2 (w2.heap.size, boxM (.pointer (some ⟨wl.heap.size, 0, none⟩)) root) (by simp)).1 ?_; intro w4 hst; have P4 := Lib.hid (HB.out.store (fun p hp => by cases hp) D2.out hst); clear hst)
        go_roundw
        case rel => exact ⟨k + 1, o2, zs2, T, rt2, by go_num, by omega, Lib.hid JC.out.2.1, P4⟩
        case measure => simp [intOf]; omega
    · have e : k = N := by omega
      subst e
      have hs := HG.out.2.2.2.1
      have hg0 := P0.out
      obtain ⟨hg2, x0, x1⟩ := cellsM (P0.out.2.2 (w2.heap.size, boxM (.pointer (some ⟨wl.heap.size, 0, none⟩)) root) (by simp)).1
      clear hg0
      go_wp2_with fail
      refine (pmlist P0.out.1.1 (t := t) (root := root) HG.out.1 (by omega)).mono ?_
      rintro e wa ⟨vl, rfl, hol, hb⟩
      have hll := Lib.hid (Tre.list_len t)
      have P2 := Lib.hid (P0.out.below hb)
      have HPL := Lib.hid (hol.list (by have := hll.out; omega))
      obtain ⟨p, cp, rfl, hl1, hc⟩ := HPL.out.open_
      clear hc hb hol x0 x1 hg2 P0
      have HX : Hid (∀ X, Below wa.heap.size wa X → PS w X (.pointer (some ⟨wl.heap.size, 0, none⟩)) o 65536 zs (.slice none 0 0) [] [(w2.heap.size, boxM (.pointer (some ⟨wl.heap.size, 0, none⟩)) root)] ∧ ∀ j, j < t.list.length → ∃ g of, p = some ⟨g, of, none⟩ ∧ g < wa.heap.size ∧ X.cell? ⟨g, of + j * 2, none⟩ = some (.int .i64 (t.list.getD j Pai.zero).k) ∧ X.cell? ⟨g, of + j * 2 + 1, none⟩ = some (.int .i64 (t.list.getD j Pai.zero).v)) := Lib.hid fun X hX => ⟨P2.out.below hX, fun j hj => by
        obtain ⟨p', c', hv, _, hc⟩ := (HPL.out.below hX).open_
        injection hv with e1 e2 e3
        subst e1
        obtain ⟨g, of, hp, _, hg, h1, h2⟩ := hc j hj
        refine ⟨g, of, hp, ?_, h1, h2⟩
        obtain ⟨p', c', hv, _, hc⟩ := HPL.out.open_
        injection hv with e1 e2 e3
        subst e1
        obtain ⟨g', of', hp', _, hg', _⟩ := hc j hj
        rw [hp] at hp'
        injection hp' with e
        injection e with e
        omega⟩
      clear P2 HPL
      have BB0 : Hid (Below wa.heap.size wa wa) := Lib.hid (Below.refl _ _)
      go_wp2_with fail
      go_loopw [58] (fun s58 wr => ∃ j : Nat, s58 = .int .i64 (j : Int) ∧ j ≤ t.list.length ∧ Hid (Below wa.heap.size wa wr)) (fun s58 _ => t.list.length - (intOf s58).toNat)
      case atStart => exact ⟨0, rfl, Nat.zero_le _, BB0⟩
      case round =>
        clear BB0
        obtain ⟨j, rfl, hj, BB⟩ := hrel
        by_cases hlt : j < t.list.length
        · have hAt := pmat (j : Int) (HX.out _ BB.out).1.1.1 (t := t) (root := root) HG.out.1 (by omega) (by have := hll.out; omega)
          rw [(nth_list t (j : Int)).1 ⟨by omega, by have := hll.out; omega⟩] at hAt
          simp only [Int.toNat_natCast] at hAt
          have HA := Lib.hid hAt
          have HR : Hid (t.rank (t.list.getD j Pai.zero).k = j) := Lib.hid (by rw [(link _ 0 t HG.out.2.1).2.2.2.2.1]; exact HG.out.2.1.rank hlt)
          clear hAt
          obtain ⟨hg2, x0, x1⟩ := cellsM ((HX.out _ BB.out).1.2.2 (w2.heap.size, boxM (.pointer (some ⟨wl.heap.size, 0, none⟩)) root) (by simp)).1
          obtain ⟨g, of, rfl, hg, _, _⟩ := (HX.out _ BB.out).2 j hlt
          by_cases h0 : j = 0
          · subst h0
            have HC := Lib.hid fun X hX => (HX.out X hX).2 0 hlt
            generalize t.list.getD 0 Pai.zero = x at HA HR HC
            go_wp2_with fail
            refine HA.out.mono ?_
            rintro e wb ⟨rfl, hb⟩
            have B2 := Lib.hid (BB.out.trans (hb.mono BB.out.size))
            have B3 : Hid (Below wa.heap.size wa (wb.alloc (.cells #[.int .i64 x.k, .int .i64 x.v] 52)) ∧ (wb.alloc (.cells #[.int .i64 x.k, .int .i64 x.v] 52)).heap[wb.heap.size]? = some (boxP x)) := Lib.hid ⟨B2.out.alloc B2.out.size _, heap_alloc_at _ _ _ rfl⟩
            clear HA hb x0 x1 hg2 BB B2
            obtain ⟨hg2, x0, x1⟩ := cellsM ((HX.out _ B3.out.1).1.2.2 (w2.heap.size, boxM (.pointer (some ⟨wl.heap.size, 0, none⟩)) root) (by simp)).1
            obtain ⟨_, p0, p1⟩ := cellsP B3.out.2
            obtain ⟨g', of', hp, _, c0, c1⟩ := HC.out _ B3.out.1
            injection hp with hp
            injection hp with e1 e2
            subst e1 e2
            simp only [Nat.zero_mul, Nat.add_zero] at c0 c1
            have kx0 := cell_regrown x0
            have kx1 := cell_regrown x1
            have kp0 := cell_regrown p0
            have kp1 := cell_regrown p1
            have kc0 := cell_regrown c0
            have kc1 := cell_regrown c1
            have HRK : Hid (∀ d os, Calls Try.prog 25 #[.agg #[(.pointer (some ⟨wl.heap.size, 0, none⟩)), .int .i64 root], .int .i64 x.k] (grow (redrawn (wb.alloc (.cells #[.int .i64 x.k, .int .i64 x.v] 52)) d) os) fun e w'' => e = .returned (.int .i64 ((0 : Nat) : Int)) ∧ ∃ p : Regrown, w'' = grow (redrawn (wb.alloc (.cells #[.int .i64 x.k, .int .i64 x.v] 52)) p.d) p.os) := Lib.hid fun d os => Calls.regrown_of (by
              have h := pmrank x.k (HX.out _ (B3.out.1.trans ((below_regrown _ d os).mono B3.out.1.size))).1.1.1 (t := t) (root := root) HG.out.1 (by have := HG.out.2.2.2.2.2.2; omega)
              rw [HR.out] at h
              exact h)
            have hxe := fun wx => ne_pai x x wx
            simp only [Pai.beq_self, Bool.not_true] at hxe
            clear x0 x1 p0 p1 c0 c1 hg2 HC HR
            go_wp2_with fail
            refine wp_region_quiet_below (by kernel_rfl) (by kernel_rfl) ?_
            repeat (go_big_quiet_step (exact HRK.out _ _))
            refine wpQuiet_nil ?_
            intro _ hw'
            obtain ⟨⟨dq, osq⟩, hw''⟩ := hw'
            subst hw''
            have B4 := Lib.hid (B3.out.1.trans ((below_regrown _ dq osq).mono B3.out.1.size))
            clear kx0 kx1 kp0 kp1 kc0 kc1 HRK hxe B3
            go_wp2_with fail
            go_roundw
            case rel => exact ⟨0 + 1, by go_num, by omega, B4⟩
            case measure => simp [intOf]; omega
          · obtain ⟨m, rfl⟩ : ∃ m, j = m + 1 := ⟨j - 1, by omega⟩
            have HC := Lib.hid fun X hX => (HX.out X hX).2 (m + 1) hlt
            have HD := Lib.hid fun X hX => (HX.out X hX).2 m (by omega)
            have hL := HG.out.2.1.lt (i := m) (j := m + 1) (by omega) hlt
            generalize t.list.getD (m + 1) Pai.zero = x at HA HR HC hL
            generalize t.list.getD m Pai.zero = y at HD hL
            have hml : (m : Int) < (t.list.length : Int) := by omega
            have hml2 : (m : Int) + 1 < (t.list.length : Int) := by omega
            have ew : IntKind.i64.wrap ((m : Int) + 1 - 1) = (m : Int) := by rw [IntKind.wrap_i64]; omega
            go_wp2_with fail
            refine HA.out.mono ?_
            rintro e wb ⟨rfl, hb⟩
            have B2 := Lib.hid (BB.out.trans (hb.mono BB.out.size))
            have B3 : Hid (Below wa.heap.size wa (wb.alloc (.cells #[.int .i64 x.k, .int .i64 x.v] 52)) ∧ (wb.alloc (.cells #[.int .i64 x.k, .int .i64 x.v] 52)).heap[wb.heap.size]? = some (boxP x)) := Lib.hid ⟨B2.out.alloc B2.out.size _, heap_alloc_at _ _ _ rfl⟩
            clear HA hb x0 x1 hg2 BB B2
            obtain ⟨hg2, x0, x1⟩ := cellsM ((HX.out _ B3.out.1).1.2.2 (w2.heap.size, boxM (.pointer (some ⟨wl.heap.size, 0, none⟩)) root) (by simp)).1
            obtain ⟨_, p0, p1⟩ := cellsP B3.out.2
            obtain ⟨g', of', hp, _, c0, c1⟩ := HC.out _ B3.out.1
            injection hp with hp
            injection hp with e1 e2
            subst e1 e2
            obtain ⟨g', of', hp, _, d0, _⟩ := HD.out _ B3.out.1
            injection hp with hp
            injection hp with e1 e2
            subst e1 e2
            have kd0 := cell_regrown d0
            clear d0
            have hge : decide (x.k ≤ y.k) = false := by rw [decide_eq_false_iff_not]; omega
            have kx0 := cell_regrown x0
            have kx1 := cell_regrown x1
            have kp0 := cell_regrown p0
            have kp1 := cell_regrown p1
            have kc0 := cell_regrown c0
            have kc1 := cell_regrown c1
            have HRK : Hid (∀ d os, Calls Try.prog 25 #[.agg #[(.pointer (some ⟨wl.heap.size, 0, none⟩)), .int .i64 root], .int .i64 x.k] (grow (redrawn (wb.alloc (.cells #[.int .i64 x.k, .int .i64 x.v] 52)) d) os) fun e w'' => e = .returned (.int .i64 ((m + 1 : Nat) : Int)) ∧ ∃ p : Regrown, w'' = grow (redrawn (wb.alloc (.cells #[.int .i64 x.k, .int .i64 x.v] 52)) p.d) p.os) := Lib.hid fun d os => Calls.regrown_of (by
              have h := pmrank x.k (HX.out _ (B3.out.1.trans ((below_regrown _ d os).mono B3.out.1.size))).1.1.1 (t := t) (root := root) HG.out.1 (by have := HG.out.2.2.2.2.2.2; omega)
              rw [HR.out] at h
              exact h)
            have hxe := fun wx => ne_pai x x wx
            simp only [Pai.beq_self, Bool.not_true] at hxe
            clear x0 x1 p0 p1 c0 c1 hg2 HC HR
            go_wp2_with fail
            refine wp_region_quiet_below (by kernel_rfl) (by kernel_rfl) ?_
            repeat (go_big_quiet_step (exact HRK.out _ _))
            refine wpQuiet_nil ?_
            intro _ hw'
            obtain ⟨⟨dq, osq⟩, hw''⟩ := hw'
            subst hw''
            have B4 := Lib.hid (B3.out.1.trans ((below_regrown _ dq osq).mono B3.out.1.size))
            clear kx0 kx1 kp0 kp1 kc0 kc1 HRK hxe B3
            go_wp2_with fail
            go_roundw
            case rel => exact ⟨(m + 1) + 1, by go_num, by omega, B4⟩
            case measure => simp [intOf]; omega
        · have e : j = t.list.length := by omega
          subst e
          have HH : Hid (∀ X, Below wa.heap.size wa X → Calls Try.prog 22 #[.agg #[(.pointer (some ⟨wl.heap.size, 0, none⟩)), .int .i64 root]] X (IntB (t.high : Int) X)) := Lib.hid fun X hX => pmhigh (HX.out X hX).1.1.1 (t := t) (root := root) HG.out.1
          have HLn : Hid (∀ X, Below wa.heap.size wa X → Calls Try.prog 23 #[.agg #[(.pointer (some ⟨wl.heap.size, 0, none⟩)), .int .i64 root]] X (IntB (t.list.length : Int) X)) := Lib.hid fun X hX => by rw [hll.out]; exact pmlen (HX.out X hX).1.1.1 (t := t) (root := root) HG.out.1
          have HM : Hid (∀ X, Below wa.heap.size wa X → X.cell? ⟨w2.heap.size, 0, none⟩ = some (.pointer (some ⟨wl.heap.size, 0, none⟩)) ∧ X.cell? ⟨w2.heap.size, 1, none⟩ = some (.int .i64 root)) := Lib.hid fun X hX => (cellsM ((HX.out X hX).1.2.2 (w2.heap.size, boxM (.pointer (some ⟨wl.heap.size, 0, none⟩)) root) (by simp)).1).2
          have hh := gt_high hN HG.out
          have hpw := bal_size t HG.out.2.2.1
          rw [← hll.out] at hpw
          have hk0 : k = 0 ∨ 0 < t.list.length := by
            rcases Nat.eq_zero_or_pos k with h | h
            · exact .inl h
            · exact .inr (by rw [hll.out]; exact HG.out.2.2.2.2.2.1 h)
          have HF : Hid (∀ X, Below wa.heap.size wa X → Below w.heap.size w X) := Lib.hid fun X hX => (HX.out X hX).1.1.2.1
          rw [← hll.out] at hs
          generalize t.list.length = L at *
          generalize t.high = H at *
          have hL4 : L ≤ 400 := by omega
          clear hll HX HG hj hlt
          have hp2 : (2 : Int) ^ H ≤ ((L : Int) + 1) * ((L : Int) + 1) := by exact_mod_cast hpw
          have hm : ((L : Int) + 1) * ((L : Int) + 1) ≤ 401 * 401 := Int.mul_le_mul (by omega) (by omega) (by omega) (by omega)
          have hp0 : (0 : Int) < (2 : Int) ^ H := Int.pow_pos (by omega)
          have ew1 : IntKind.i64.wrap (((L : Int) + 1) * ((L : Int) + 1)) = ((L : Int) + 1) * ((L : Int) + 1) := IntWalk.i64_in _ (by have : (0 : Int) ≤ ((L : Int) + 1) * ((L : Int) + 1) := Int.mul_nonneg (by omega) (by omega); omega)
          have ew2 : IntKind.i64.wrap ((2 : Int) ^ H) = (2 : Int) ^ H := IntWalk.i64_in _ (by omega)
          have hlt2 : decide (((L : Int) + 1) * ((L : Int) + 1) < (2 : Int) ^ H) = false := by rw [decide_eq_false_iff_not]; omega
          clear hpw hm hp2 hp0
          obtain ⟨x0, x1⟩ := HM.out _ BB.out
          go_wp2_with fail
          refine (HH.out _ BB.out).mono ?_
          rintro e wb ⟨rfl, hb⟩
          have B1 := Lib.hid (BB.out.trans (hb.mono BB.out.size))
          clear hb x0 x1 BB
          obtain ⟨x0, x1⟩ := HM.out _ B1.out
          go_wp2_with fail
          refine (HH.out _ B1.out).mono ?_
          rintro e wb1 ⟨rfl, hb⟩
          have B2 := Lib.hid (B1.out.trans (hb.mono B1.out.size))
          clear hb x0 x1 B1
          obtain ⟨x0, x1⟩ := HM.out _ B2.out
          go_wp2_with fail
          refine (HH.out _ B2.out).mono ?_
          rintro e wb2 ⟨rfl, hb⟩
          have B3 := Lib.hid (B2.out.trans (hb.mono B2.out.size))
          clear hb x0 x1 B2
          obtain ⟨x0, x1⟩ := HM.out _ B3.out
          go_wp2_with fail
          refine (HLn.out _ B3.out).mono ?_
          rintro e wb3 ⟨rfl, hb⟩
          have B4 := Lib.hid (B3.out.trans (hb.mono B3.out.size))
          clear hb x0 x1 B3
          rcases hk0 with h0 | h0
          · subst h0
            go_wp2_with fail
            go_ret
            exact ⟨rfl, HF.out _ B4.out⟩
          · go_wp2_with fail
            go_ret
            exact ⟨rfl, HF.out _ B4.out⟩
end Go.Proofs.Ytpmimngngehmlaa.mapGrows
