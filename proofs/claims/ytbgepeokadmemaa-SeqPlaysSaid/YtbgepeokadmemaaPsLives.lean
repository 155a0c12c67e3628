/-
  The answers that the document gives of sequences are there. Not a statement of the seat.
-/
import Derived.Test.YtbgepeokadmemaaPsLv0
namespace Go.Proofs.Ytbgepeokadmemaa.Q
open Go.ChangeShapes Go.WideShapes Go.ChangeAt Go.RowKit Base F
set_option maxHeartbeats 16000000 in
set_option maxRecDepth 100000 in
theorem pslives (w : World) : Calls Try.prog 4 #[] w fun e w' => e = .returned (.bool true) ∧ Below w.heap.size w w' := by
  go_enter Try.func4, Try.ntmps4
  go_wp2_with fail
  refine (arnew_any 40 w).mono ?_
  rintro e w1 ⟨rfl, hA, hb⟩
  rw [show roomOf 40 = 40 by decide] at hA
  obtain ⟨pa, hpa⟩ : ∃ pa, pa = some (⟨w.heap.size, 0, none⟩ : Addr) := ⟨_, rfl⟩
  have hP : PS w w1 (.pointer pa) none 40 [] (.slice none 0 0) [] [] := by rw [hpa]; exact ⟨AI.new hA hb (Nat.le_refl _), QS.nil _ _ _, fun p hp => by cases hp⟩
  have P1 := Lib.hid hP
  clear hA hb hP
  go_wp2_with fail
  rw [← hpa]
  clear hpa
  refine (psnew P1.out.1.1).mono ?_
  rintro e w2 ⟨rfl, hb⟩
  obtain ⟨g2, hg2⟩ : ∃ g, g = w2.heap.size := ⟨_, rfl⟩
  have P2 := Lib.hid ((P1.out.below hb).addAt (boxS (.pointer pa) 0) hg2)
  clear hb P1
  obtain ⟨W2, hW2⟩ : ∃ W, W = w2.alloc (boxS (.pointer pa) 0) := ⟨_, rfl⟩
  rw [← hW2] at P2
  unfold boxS at hW2
  go_wp2_with fail
  rw [← hg2, ← hW2]
  clear hg2 hW2
  refine (psinsert 0 7 (by omega) P2.out.1.1 (t := .nil) (root := 0) rfl trivial (by decide) (by decide)).mono ?_
  intro e w3 hp
  obtain ⟨rt3, why, zs3, hs, hM⟩ := hp.step
  obtain ⟨rfl, o3, PX⟩ := P2.out.step hs
  have HF := Lib.hid (res_ok hM.out (by simp [Tre.high]))
  obtain rfl : why = 0 := HF.out.1
  clear hp hs hM P2
  have PW := PX
  obtain ⟨g3, hg3⟩ : ∃ g, g = w3.heap.size := ⟨_, rfl⟩
  have P3 := Lib.hid (PX.out.addAt (boxS (.pointer pa) rt3) hg3)
  obtain ⟨W3, hW3⟩ : ∃ W, W = w3.alloc (boxS (.pointer pa) rt3) := ⟨_, rfl⟩
  rw [← hW3] at P3
  unfold boxS at hW3
  clear PX
  have H1 : Hid (zs3.length ≤ 1 ∧ Tr zs3 T1 rt3) := Lib.hid ⟨by have := HF.out.2.2.1; simpa [Tre.high] using this, HF.out.2.2.2⟩
  clear HF
  go_wp2_with fail
  rw [← hg3, ← hW3]
  clear hg3 hW3
  refine (psinsert 0 8 (by omega) P3.out.1.1 (t := T1) (root := rt3) H1.out.2 T1_k0 (by rw [T1_f.1]; decide) (by decide)).mono ?_
  intro e w5 hp
  obtain ⟨rt5, why, zs5, hs, hM⟩ := hp.step
  obtain ⟨rfl, o5, PX⟩ := P3.out.step hs
  have HF := Lib.hid (res_ok hM.out (by rw [T1_f.2]; have := H1.out.1; omega))
  obtain rfl : why = 0 := HF.out.1
  clear hp hs hM P3
  clear PW
  have PW := PX
  obtain ⟨g5, hg5⟩ : ∃ g, g = w5.heap.size := ⟨_, rfl⟩
  have P5 := Lib.hid (PX.out.addAt (boxS (.pointer pa) rt5) hg5)
  obtain ⟨W5, hW5⟩ : ∃ W, W = w5.alloc (boxS (.pointer pa) rt5) := ⟨_, rfl⟩
  rw [← hW5] at P5
  unfold boxS at hW5
  clear PX
  have H2 : Hid (zs5.length ≤ 5 ∧ Tr zs5 T2 rt5) := Lib.hid ⟨by have := HF.out.2.2.1; rw [T1_f.2] at this; have := H1.out.1; omega, HF.out.2.2.2⟩
  clear HF H1
  go_wp2_with fail
  rw [← hg5, ← hW5]
  clear hg5 hW5
  refine (psinsert_none 3 9 P5.out.1.1 (t := T2) (root := rt5) H2.out.2 (by rw [T2_f.1]; decide)).mono ?_
  rintro e w7 ⟨rfl, hb⟩
  clear PW
  have PW := Lib.hid (P5.out.below hb)
  clear hb P5
  obtain ⟨g7, hg7⟩ : ∃ g, g = w7.heap.size := ⟨_, rfl⟩
  have P7 := Lib.hid (PW.out.addAt (boxS (.pointer pa) 0) hg7)
  obtain ⟨W7, hW7⟩ : ∃ W, W = w7.alloc (boxS (.pointer pa) 0) := ⟨_, rfl⟩
  rw [← hW7] at P7
  unfold boxS at hW7
  obtain ⟨hlt, x0, x1⟩ := cellsS (PW.out.2.2 (g5, boxS (.pointer pa) rt5) (by simp)).1
  go_wp2_with fail
  rw [← hg7, ← hW7]
  clear hg7 hW7
  refine (psset 1 6 (by omega) P7.out.1.1 (t := T2) (root := rt5) H2.out.2 T2_k0 (by rw [T2_f.1]; decide) (by rw [T2_f.1]; decide)).mono ?_
  intro e w9 hp
  obtain ⟨rt9, why, zs9, hs, hM⟩ := hp.step
  obtain ⟨rfl, o9, PX⟩ := P7.out.step hs
  have HF := Lib.hid (res_ok hM.out (by rw [T2_f.2.1]; have := H2.out.1; omega))
  obtain rfl : why = 0 := HF.out.1
  clear hp hs hM P7 x0 x1 hlt
  clear PW
  have PW := PX
  obtain ⟨g9, hg9⟩ : ∃ g, g = w9.heap.size := ⟨_, rfl⟩
  have P9 := Lib.hid (PX.out.addAt (boxS (.pointer pa) rt9) hg9)
  obtain ⟨W9, hW9⟩ : ∃ W, W = w9.alloc (boxS (.pointer pa) rt9) := ⟨_, rfl⟩
  rw [← hW9] at P9
  unfold boxS at hW9
  clear PX
  have H3 : Hid (zs9.length ≤ 11 ∧ Tr zs9 T2 rt5 ∧ Tr zs9 T3 rt9) := Lib.hid (by
    obtain ⟨_, ⟨new, he⟩, hl, ht⟩ := HF.out
    rw [T2_f.2.1] at hl
    exact ⟨by have := H2.out.1; omega, by rw [he]; exact H2.out.2.append _, ht⟩)
  clear HF H2
  obtain ⟨hlt, x0, x1⟩ := cellsS (PW.out.2.2 (g5, boxS (.pointer pa) rt5) (by simp)).1
  go_wp2_with fail
  rw [← hg9, ← hW9]
  clear hg9 hW9
  refine (psset_none 2 6 P9.out.1.1 (t := T2) (root := rt5) H3.out.2.1 (by rw [T2_f.1]; decide)).mono ?_
  rintro e w11 ⟨rfl, hb⟩
  clear PW
  have PW := Lib.hid (P9.out.below hb)
  clear hb P9 x0 x1 hlt
  obtain ⟨g11, hg11⟩ : ∃ g, g = w11.heap.size := ⟨_, rfl⟩
  have P11 := Lib.hid (PW.out.addAt (boxS (.pointer pa) 0) hg11)
  obtain ⟨W11, hW11⟩ : ∃ W, W = w11.alloc (boxS (.pointer pa) 0) := ⟨_, rfl⟩
  rw [← hW11] at P11
  unfold boxS at hW11
  obtain ⟨hlt, x0, x1⟩ := cellsS (PW.out.2.2 (g5, boxS (.pointer pa) rt5) (by simp)).1
  go_wp2_with fail
  rw [← hg11, ← hW11]
  clear hg11 hW11
  refine (psdel_none (-1) P11.out.1.1 (t := T2) (root := rt5) H3.out.2.1 (by rw [T2_f.1]; decide)).mono ?_
  rintro e w13 ⟨rfl, hb⟩
  clear PW
  have PW := Lib.hid (P11.out.below hb)
  clear hb P11 x0 x1 hlt
  obtain ⟨g13, hg13⟩ : ∃ g, g = w13.heap.size := ⟨_, rfl⟩
  have P13 := Lib.hid (PW.out.addAt (boxS (.pointer pa) 0) hg13)
  obtain ⟨W13, hW13⟩ : ∃ W, W = w13.alloc (boxS (.pointer pa) 0) := ⟨_, rfl⟩
  rw [← hW13] at P13
  unfold boxS at hW13
  obtain ⟨hlt, x0, x1⟩ := cellsS (PW.out.2.2 (g5, boxS (.pointer pa) rt5) (by simp)).1
  go_wp2_with fail
  rw [← hg13, ← hW13]
  clear hg13 hW13
  refine (psdel 0 P13.out.1.1 (t := T2) (root := rt5) H3.out.2.1 T2_k0 (by rw [T2_f.1]; decide) (by rw [T2_f.1]; decide)).mono ?_
  intro e w15 hp
  obtain ⟨rt15, why, zs15, hs, hM⟩ := hp.step
  obtain ⟨rfl, o15, PX⟩ := P13.out.step hs
  have HF := Lib.hid (res_ok hM.out (by rw [T2_f.2.1]; have := H3.out.1; omega))
  obtain rfl : why = 0 := HF.out.1
  clear hp hs hM P13 x0 x1 hlt
  clear PW
  have PW := PX
  obtain ⟨g15, hg15⟩ : ∃ g, g = w15.heap.size := ⟨_, rfl⟩
  have P15 := Lib.hid (PX.out.addAt (boxS (.pointer pa) rt15) hg15)
  obtain ⟨W15, hW15⟩ : ∃ W, W = w15.alloc (boxS (.pointer pa) rt15) := ⟨_, rfl⟩
  rw [← hW15] at P15
  unfold boxS at hW15
  clear PX
  have H4 : Hid (Tr zs15 T2 rt5 ∧ Tr zs15 T3 rt9) := Lib.hid (by
    obtain ⟨_, ⟨new, he⟩, _, _⟩ := HF.out
    exact ⟨by rw [he]; exact H3.out.2.1.append _, by rw [he]; exact H3.out.2.2.append _⟩)
  clear HF H3
  obtain ⟨hlt, x0, x1⟩ := cellsS (PW.out.2.2 (g5, boxS (.pointer pa) rt5) (by simp)).1
  have hG := psat 1 P15.out.1.1 (t := T2) (root := rt5) H4.out.1 (by omega)
  rw [show atV T2 1 = (7, true) by rw [atV_vals, T2_f.1, T2_f.2.2]; rfl] at hG
  go_wp2_with fail
  rw [← hg15, ← hW15]
  clear hg15 hW15
  refine hG.mono ?_
  rintro e w17 ⟨rfl, hb⟩
  have PA := Lib.hid (P15.out.below hb)
  clear hb x0 x1 hlt hG P15 PW
  obtain ⟨_, x0, x1⟩ := cellsS (PA.out.2.2 (g5, boxS (.pointer pa) rt5) (by simp)).1
  have hG := psat 2 PA.out.1.1 (t := T2) (root := rt5) H4.out.1 (by omega)
  rw [show atV T2 2 = (0, false) by rw [atV_vals, T2_f.1, T2_f.2.2]; rfl] at hG
  go_wp2_with fail
  refine hG.mono ?_
  rintro e w18 ⟨rfl, hb⟩
  have PB := Lib.hid (PA.out.below hb)
  clear hb x0 x1 hG PA
  obtain ⟨wb, hwb⟩ : ∃ wb, wb = w18 := ⟨_, rfl⟩
  subst hwb
  have HX : Hid (∀ X, Below wb.heap.size wb X → PS w X (.pointer pa) o15 40 zs15 (.slice none 0 0) [] [(g15, boxS (.pointer pa) rt15), (g13, boxS (.pointer pa) 0), (g11, boxS (.pointer pa) 0), (g9, boxS (.pointer pa) rt9), (g7, boxS (.pointer pa) 0), (g5, boxS (.pointer pa) rt5), (g3, boxS (.pointer pa) rt3), (g2, boxS (.pointer pa) 0)]) := Lib.hid fun X hX => PB.out.below hX
  have HOK : Hid (∀ x ∈ T2.vals, -9223372036854775808 ≤ x ∧ x ≤ 9223372036854775807) := Lib.hid (by rw [T2_f.2.2]; intro x hx; simp at hx; omega)
  have HBB : Hid (Below wb.heap.size wb wb) := Lib.hid (Below.refl _ _)
  obtain ⟨_, x0, x1⟩ := cellsS (PB.out.2.2 (g5, boxS (.pointer pa) rt5) (by simp)).1
  clear PB
  go_upto_region 14 with fail
  have HB2 : Hid (Below wb.heap.size wb wb) := Lib.hid (Below.refl _ _)
  have B0 : Hid (Below wb.heap.size wb wb.drew) := Lib.hid (below_drewN (Below.refl _ _) 1)
  refine join4 (fun (gb b2 : Nat) (rtu : Int) (u : World) => ∃ (o2 : Option Nat) (zsu : List Cel), PS wb u (.pointer (some ⟨b2, 0, none⟩)) o2 2 zsu (.slice none 0 0) [] [(gb, boxS (.pointer (some ⟨b2, 0, none⟩)) rtu)] ∧ Tr zsu (mkN T2.vals) rtu) ?GJ (fun HJ => ?fork) ?rest
  case fork =>
    refine wp_region_held_drew (S := (fun X => X.cell? ⟨g5, 0, none⟩ = some (.pointer pa) ∧ X.cell? ⟨g5, 1, none⟩ = some (.int .i64 rt5))) (by as_aux_lemma => kernel_rfl) (cellsS ((HX.out _ B0.out).2.2 (g5, boxS (.pointer pa) rt5) (by simp)).1).2 (fun hHeld0 => ?_)
    refine wpAnyH_take (i := 0) (v := ?_) rfl (by as_aux_lemma => kernel_rfl) (by as_aux_lemma => kernel_rfl) (by as_aux_lemma => kernel_rfl) (fun _ _ _ h => h) (Or.inl ⟨by as_aux_lemma => rfl, ?ym141⟩) (by assumption) ?qm141
    case ym141 => (intro wz hSw; (try dsimp only at hSw); go_simp <;> with_reducible rfl)
    try simp only [Act.put, List.getElem_toArray, List.getElem_cons_zero, List.setIfInBounds_toArray, List.set_cons_zero, List.set_cons_succ]
    refine wpAnyH_ready (rs := [1, 6]) (by as_aux_lemma => kernel_rfl) (by simp) ?_
    refine AllReadyH.cons rfl (fun K hK => ?bm142) ?cm142
    case bm142 =>
      go_simp
      refine (arnew_b 2 _).mono ?_
      rintro e u2 ⟨b2, rfl, hbe, hA, hb⟩
      rw [show roomOf 2 = 2 by decide] at hA
      have P2 : Hid (PS wb u2 (.pointer (some ⟨b2, 0, none⟩)) none 2 [] (.slice none 0 0) [] []) := Lib.hid (ps_new0 B0.out hbe hA hb)
      clear hbe hA hb
      refine hK.out _ _ ((cellsS ((HX.out _ (HB2.out.trans (P2.out.1.2.1.mono HB2.out.size))).2.2 (g5, boxS (.pointer pa) rt5) (by simp)).1).2) (fun hHeld2 => ?_)
      clear hK K
      try simp only [Act.put, List.getElem_toArray, List.getElem_cons_zero, List.getElem_cons_succ, List.setIfInBounds_toArray, List.set_cons_zero, List.set_cons_succ]
      refine wpAnyH_ready (rs := [2, 6]) (by as_aux_lemma => kernel_rfl) (by simp) ?_
      refine AllReadyH.cons rfl (fun K hK => ?bm143) ?cm143
      case bm143 =>
        go_simp
        refine (psmove (HX.out _ (HB2.out.trans (P2.out.1.2.1.mono HB2.out.size))).1.1 (t := T2) (root := rt5) H4.out.1 (by rw [T2_f.1]; decide) P2.out.1.1 HOK.out).mono ?_
        intro e u3 hp
        obtain ⟨rtu, why, zsu, hs, hM⟩ := hp.step
        obtain ⟨rfl, o2, P3⟩ := P2.out.step hs
        have HU : Hid (why = 0 ∧ Tr zsu (mkN T2.vals) rtu) := Lib.hid (match hM.out with | .inl ⟨h0, _, ht⟩ => ⟨h0, ht⟩ | .inr ⟨_, _, _, hz⟩ => absurd hz (by rw [T2_f.1]; decide))
        obtain rfl : why = 0 := HU.out.1
        clear hp hs hM P2
        refine hK.out _ _ ((cellsS ((HX.out _ (HB2.out.trans (P3.out.1.2.1.mono HB2.out.size))).2.2 (g5, boxS (.pointer pa) rt5) (by simp)).1).2) (fun hHeld3 => ?_)
        clear hK K
        try simp only [Act.put, List.getElem_toArray, List.getElem_cons_zero, List.getElem_cons_succ, List.setIfInBounds_toArray, List.set_cons_zero, List.set_cons_succ]
        refine wpAnyH_take (i := 3) (v := ?_) rfl (by as_aux_lemma => kernel_rfl) (by as_aux_lemma => kernel_rfl) (by as_aux_lemma => kernel_rfl) (fun _ _ _ h => h) (Or.inl ⟨by as_aux_lemma => rfl, ?ym144⟩) (by assumption) ?qm144
        case ym144 => (intro wz hSw; (try dsimp only at hSw); go_simp <;> with_reducible rfl)
        try simp only [Act.put, List.getElem_toArray, List.getElem_cons_zero, List.getElem_cons_succ, List.setIfInBounds_toArray, List.set_cons_zero, List.set_cons_succ]
        refine wpAnyH_take (i := 4) (v := ?_) rfl (by as_aux_lemma => kernel_rfl) (by as_aux_lemma => kernel_rfl) (by as_aux_lemma => kernel_rfl) (fun _ _ _ h => h) (Or.inl ⟨by as_aux_lemma => rfl, ?ym145⟩) (by assumption) ?qm145
        case ym145 => (intro wz hSw; (try dsimp only at hSw); go_simp <;> with_reducible rfl)
        try simp only [Act.put, List.getElem_toArray, List.getElem_cons_zero, List.getElem_cons_succ, List.setIfInBounds_toArray, List.set_cons_zero, List.set_cons_succ]
        refine wpAnyH_take (i := 5) (v := ?_) rfl (by as_aux_lemma => kernel_rfl) (by as_aux_lemma => kernel_rfl) (by as_aux_lemma => kernel_rfl) (fun _ _ _ h => h) (Or.inl ⟨by as_aux_lemma => rfl, ?ym146⟩) (by assumption) ?qm146
        case ym146 => (intro wz hSw; (try dsimp only at hSw); go_simp <;> with_reducible rfl)
        try simp only [Act.put, List.getElem_toArray, List.getElem_cons_zero, List.getElem_cons_succ, List.setIfInBounds_toArray, List.set_cons_zero, List.set_cons_succ]
        refine wpAnyH_ready (rs := [6]) (by as_aux_lemma => kernel_rfl) (by simp) ?_
        refine AllReadyH.cons rfl (fun K hK => ?_) AllReadyH.nil
        rw [if_pos (by rfl)]
        refine wp_alloc_seq rfl ?_
        intro gb u7 hgb hu
        have P7 := Lib.hid (show PS wb u7 _ _ _ _ _ _ _ from (by rw [hu]; exact P3.out.addAt (boxS (.pointer none) 0) hgb))
        have DB : Hid (wb.heap.size ≤ gb) := Lib.hid (by rw [hgb]; exact P3.out.1.2.1.size)
        clear hu hgb P3
        refine hK.out _ _ ((cellsS ((HX.out _ (HB2.out.trans (P7.out.1.2.1.mono HB2.out.size))).2.2 (g5, boxS (.pointer pa) rt5) (by simp)).1).2) (fun hHeld7 => ?_)
        clear hK K
        try simp only [Act.put, List.getElem_toArray, List.getElem_cons_zero, List.getElem_cons_succ, List.setIfInBounds_toArray, List.set_cons_zero, List.set_cons_succ]
        refine wpAnyH_ready (rs := [7]) (by as_aux_lemma => kernel_rfl) (by simp) ?_
        refine AllReadyH.cons rfl (fun K hK => ?_) AllReadyH.nil
        refine wp_store_seq (.tmp 21) (.tmp 81) rfl gb (some ⟨b2, 0, none⟩) none rtu 0 rfl rfl (P7.out.2.2 (gb, boxS (.pointer none) 0) (by simp)).1 ?_
        intro u8 hst
        have P8 := Lib.hid (P7.out.store (fun q hq => by cases hq) DB.out hst)
        clear hst P7
        refine hK.out _ _ ((cellsS ((HX.out _ (HB2.out.trans (P8.out.1.2.1.mono HB2.out.size))).2.2 (g5, boxS (.pointer pa) rt5) (by simp)).1).2) (fun hHeld8 => ?_)
        clear hK K
        try simp only [Act.put, List.getElem_toArray, List.getElem_cons_zero, List.getElem_cons_succ]
        refine wpAnyH_take (i := 8) (v := ?_) rfl (by as_aux_lemma => kernel_rfl) (by as_aux_lemma => kernel_rfl) (by as_aux_lemma => kernel_rfl) (fun _ _ _ h => h) (Or.inl ⟨by as_aux_lemma => rfl, ?ym149⟩) (by assumption) ?qm149
        case ym149 => (intro wz hSw; (try dsimp only at hSw); go_simp <;> with_reducible rfl)
        try simp only [Act.put, List.getElem_toArray, List.getElem_cons_zero, List.getElem_cons_succ, List.setIfInBounds_toArray, List.set_cons_zero, List.set_cons_succ]
        refine wpAnyH_done (by as_aux_lemma => kernel_rfl) ?_ _
        exact HJ gb b2 rtu _ ⟨o2, zsu, P8.out, HU.out.2⟩
      refine AllReadyH.cons rfl (fun K hK => ?bm1410) ?cm1410
      case bm1410 =>
        rw [if_pos (by rfl)]
        refine wp_alloc_seq rfl ?_
        intro gb u10 hgb hu
        have P10 := Lib.hid (show PS wb u10 _ _ _ _ _ _ _ from (by rw [hu]; exact P2.out.addAt (boxS (.pointer none) 0) hgb))
        have DB : Hid (wb.heap.size ≤ gb) := Lib.hid (by rw [hgb]; exact P2.out.1.2.1.size)
        clear hu hgb P2
        refine hK.out _ _ ((cellsS ((HX.out _ (HB2.out.trans (P10.out.1.2.1.mono HB2.out.size))).2.2 (g5, boxS (.pointer pa) rt5) (by simp)).1).2) (fun hHeld10 => ?_)
        clear hK K
        try simp only [Act.put, List.getElem_toArray, List.getElem_cons_zero, List.getElem_cons_succ, List.setIfInBounds_toArray, List.set_cons_zero, List.set_cons_succ]
        refine wpAnyH_ready (rs := [2]) (by as_aux_lemma => kernel_rfl) (by simp) ?_
        refine AllReadyH.cons rfl (fun K hK => ?_) AllReadyH.nil
        go_simp
        refine (psmove (HX.out _ (HB2.out.trans (P10.out.1.2.1.mono HB2.out.size))).1.1 (t := T2) (root := rt5) H4.out.1 (by rw [T2_f.1]; decide) P10.out.1.1 HOK.out).mono ?_
        intro e u11 hp
        obtain ⟨rtu, why, zsu, hs, hM⟩ := hp.step
        obtain ⟨rfl, o2, P11⟩ := P10.out.step hs
        have HU : Hid (why = 0 ∧ Tr zsu (mkN T2.vals) rtu) := Lib.hid (match hM.out with | .inl ⟨h0, _, ht⟩ => ⟨h0, ht⟩ | .inr ⟨_, _, _, hz⟩ => absurd hz (by rw [T2_f.1]; decide))
        obtain rfl : why = 0 := HU.out.1
        clear hp hs hM P10
        refine hK.out _ _ ((cellsS ((HX.out _ (HB2.out.trans (P11.out.1.2.1.mono HB2.out.size))).2.2 (g5, boxS (.pointer pa) rt5) (by simp)).1).2) (fun hHeld11 => ?_)
        clear hK K
        try simp only [Act.put, List.getElem_toArray, List.getElem_cons_zero, List.getElem_cons_succ, List.setIfInBounds_toArray, List.set_cons_zero, List.set_cons_succ]
        refine wpAnyH_take (i := 3) (v := ?_) rfl (by as_aux_lemma => kernel_rfl) (by as_aux_lemma => kernel_rfl) (by as_aux_lemma => kernel_rfl) (fun _ _ _ h => h) (Or.inl ⟨by as_aux_lemma => rfl, ?ym1412⟩) (by assumption) ?qm1412
        case ym1412 => (intro wz hSw; (try dsimp only at hSw); go_simp <;> with_reducible rfl)
        try simp only [Act.put, List.getElem_toArray, List.getElem_cons_zero, List.getElem_cons_succ, List.setIfInBounds_toArray, List.set_cons_zero, List.set_cons_succ]
        refine wpAnyH_take (i := 4) (v := ?_) rfl (by as_aux_lemma => kernel_rfl) (by as_aux_lemma => kernel_rfl) (by as_aux_lemma => kernel_rfl) (fun _ _ _ h => h) (Or.inl ⟨by as_aux_lemma => rfl, ?ym1413⟩) (by assumption) ?qm1413
        case ym1413 => (intro wz hSw; (try dsimp only at hSw); go_simp <;> with_reducible rfl)
        try simp only [Act.put, List.getElem_toArray, List.getElem_cons_zero, List.getElem_cons_succ, List.setIfInBounds_toArray, List.set_cons_zero, List.set_cons_succ]
        refine wpAnyH_take (i := 5) (v := ?_) rfl (by as_aux_lemma => kernel_rfl) (by as_aux_lemma => kernel_rfl) (by as_aux_lemma => kernel_rfl) (fun _ _ _ h => h) (Or.inl ⟨by as_aux_lemma => rfl, ?ym1414⟩) (by assumption) ?qm1414
        case ym1414 => (intro wz hSw; (try dsimp only at hSw); go_simp <;> with_reducible rfl)
        try simp only [Act.put, List.getElem_toArray, List.getElem_cons_zero, List.getElem_cons_succ, List.setIfInBounds_toArray, List.set_cons_zero, List.set_cons_succ]
        refine wpAnyH_ready (rs := [7]) (by as_aux_lemma => kernel_rfl) (by simp) ?_
        refine AllReadyH.cons rfl (fun K hK => ?_) AllReadyH.nil
        refine wp_store_seq (.tmp 21) (.tmp 81) rfl gb (some ⟨b2, 0, none⟩) none rtu 0 rfl rfl (P11.out.2.2 (gb, boxS (.pointer none) 0) (by simp)).1 ?_
        intro u15 hst
        have P15 := Lib.hid (P11.out.store (fun q hq => by cases hq) DB.out hst)
        clear hst P11
        refine hK.out _ _ ((cellsS ((HX.out _ (HB2.out.trans (P15.out.1.2.1.mono HB2.out.size))).2.2 (g5, boxS (.pointer pa) rt5) (by simp)).1).2) (fun hHeld15 => ?_)
        clear hK K
        try simp only [Act.put, List.getElem_toArray, List.getElem_cons_zero, List.getElem_cons_succ]
        refine wpAnyH_take (i := 8) (v := ?_) rfl (by as_aux_lemma => kernel_rfl) (by as_aux_lemma => kernel_rfl) (by as_aux_lemma => kernel_rfl) (fun _ _ _ h => h) (Or.inl ⟨by as_aux_lemma => rfl, ?ym1416⟩) (by assumption) ?qm1416
        case ym1416 => (intro wz hSw; (try dsimp only at hSw); go_simp <;> with_reducible rfl)
        try simp only [Act.put, List.getElem_toArray, List.getElem_cons_zero, List.getElem_cons_succ, List.setIfInBounds_toArray, List.set_cons_zero, List.set_cons_succ]
        refine wpAnyH_done (by as_aux_lemma => kernel_rfl) ?_ _
        exact HJ gb b2 rtu _ ⟨o2, zsu, P15.out, HU.out.2⟩
      exact AllReadyH.nil
    refine AllReadyH.cons rfl (fun K hK => ?bm1417) ?cm1417
    case bm1417 =>
      rw [if_pos (by rfl)]
      refine wp_alloc_seq rfl ?_
      intro gb u17 hgb hu
      have B17 : Hid (Below wb.heap.size wb u17) := Lib.hid (by rw [hu]; exact B0.out.alloc B0.out.size _)
      have DB : Hid (wb.heap.size ≤ gb) := Lib.hid (by rw [hgb]; exact B0.out.size)
      have D0 : Hid (u17.heap[gb]? = some (boxS (.pointer none) 0)) := Lib.hid (by rw [hu, hgb]; exact heap_alloc_at _ _ _ rfl)
      clear hu hgb
      refine hK.out _ _ ((cellsS ((HX.out _ (HB2.out.trans (B17.out.mono HB2.out.size))).2.2 (g5, boxS (.pointer pa) rt5) (by simp)).1).2) (fun hHeld17 => ?_)
      clear hK K
      try simp only [Act.put, List.getElem_toArray, List.getElem_cons_zero, List.getElem_cons_succ, List.setIfInBounds_toArray, List.set_cons_zero, List.set_cons_succ]
      refine wpAnyH_ready (rs := [1]) (by as_aux_lemma => kernel_rfl) (by simp) ?_
      refine AllReadyH.cons rfl (fun K hK => ?_) AllReadyH.nil
      go_simp
      refine (arnew_b 2 _).mono ?_
      rintro e u18 ⟨b2, rfl, hbe, hA, hb⟩
      rw [show roomOf 2 = 2 by decide] at hA
      have P18 : Hid (PS wb u18 (.pointer (some ⟨b2, 0, none⟩)) none 2 [] (.slice none 0 0) [] [(gb, boxS (.pointer none) 0)]) := Lib.hid (ps_new B17.out D0.out hbe hA hb)
      clear D0
      clear hbe hA hb
      refine hK.out _ _ ((cellsS ((HX.out _ (HB2.out.trans (P18.out.1.2.1.mono HB2.out.size))).2.2 (g5, boxS (.pointer pa) rt5) (by simp)).1).2) (fun hHeld18 => ?_)
      clear hK K
      try simp only [Act.put, List.getElem_toArray, List.getElem_cons_zero, List.getElem_cons_succ, List.setIfInBounds_toArray, List.set_cons_zero, List.set_cons_succ]
      refine wpAnyH_ready (rs := [2]) (by as_aux_lemma => kernel_rfl) (by simp) ?_
      refine AllReadyH.cons rfl (fun K hK => ?_) AllReadyH.nil
      go_simp
      refine (psmove (HX.out _ (HB2.out.trans (P18.out.1.2.1.mono HB2.out.size))).1.1 (t := T2) (root := rt5) H4.out.1 (by rw [T2_f.1]; decide) P18.out.1.1 HOK.out).mono ?_
      intro e u19 hp
      obtain ⟨rtu, why, zsu, hs, hM⟩ := hp.step
      obtain ⟨rfl, o2, P19⟩ := P18.out.step hs
      have HU : Hid (why = 0 ∧ Tr zsu (mkN T2.vals) rtu) := Lib.hid (match hM.out with | .inl ⟨h0, _, ht⟩ => ⟨h0, ht⟩ | .inr ⟨_, _, _, hz⟩ => absurd hz (by rw [T2_f.1]; decide))
      obtain rfl : why = 0 := HU.out.1
      clear hp hs hM P18
      refine hK.out _ _ ((cellsS ((HX.out _ (HB2.out.trans (P19.out.1.2.1.mono HB2.out.size))).2.2 (g5, boxS (.pointer pa) rt5) (by simp)).1).2) (fun hHeld19 => ?_)
      clear hK K
      try simp only [Act.put, List.getElem_toArray, List.getElem_cons_zero, List.getElem_cons_succ, List.setIfInBounds_toArray, List.set_cons_zero, List.set_cons_succ]
      refine wpAnyH_take (i := 3) (v := ?_) rfl (by as_aux_lemma => kernel_rfl) (by as_aux_lemma => kernel_rfl) (by as_aux_lemma => kernel_rfl) (fun _ _ _ h => h) (Or.inl ⟨by as_aux_lemma => rfl, ?ym1420⟩) (by assumption) ?qm1420
      case ym1420 => (intro wz hSw; (try dsimp only at hSw); go_simp <;> with_reducible rfl)
      try simp only [Act.put, List.getElem_toArray, List.getElem_cons_zero, List.getElem_cons_succ, List.setIfInBounds_toArray, List.set_cons_zero, List.set_cons_succ]
      refine wpAnyH_take (i := 4) (v := ?_) rfl (by as_aux_lemma => kernel_rfl) (by as_aux_lemma => kernel_rfl) (by as_aux_lemma => kernel_rfl) (fun _ _ _ h => h) (Or.inl ⟨by as_aux_lemma => rfl, ?ym1421⟩) (by assumption) ?qm1421
      case ym1421 => (intro wz hSw; (try dsimp only at hSw); go_simp <;> with_reducible rfl)
      try simp only [Act.put, List.getElem_toArray, List.getElem_cons_zero, List.getElem_cons_succ, List.setIfInBounds_toArray, List.set_cons_zero, List.set_cons_succ]
      refine wpAnyH_take (i := 5) (v := ?_) rfl (by as_aux_lemma => kernel_rfl) (by as_aux_lemma => kernel_rfl) (by as_aux_lemma => kernel_rfl) (fun _ _ _ h => h) (Or.inl ⟨by as_aux_lemma => rfl, ?ym1422⟩) (by assumption) ?qm1422
      case ym1422 => (intro wz hSw; (try dsimp only at hSw); go_simp <;> with_reducible rfl)
      try simp only [Act.put, List.getElem_toArray, List.getElem_cons_zero, List.getElem_cons_succ, List.setIfInBounds_toArray, List.set_cons_zero, List.set_cons_succ]
      refine wpAnyH_ready (rs := [7]) (by as_aux_lemma => kernel_rfl) (by simp) ?_
      refine AllReadyH.cons rfl (fun K hK => ?_) AllReadyH.nil
      refine wp_store_seq (.tmp 21) (.tmp 81) rfl gb (some ⟨b2, 0, none⟩) none rtu 0 rfl rfl (P19.out.2.2 (gb, boxS (.pointer none) 0) (by simp)).1 ?_
      intro u23 hst
      have P23 := Lib.hid (P19.out.store (fun q hq => by cases hq) DB.out hst)
      clear hst P19
      refine hK.out _ _ ((cellsS ((HX.out _ (HB2.out.trans (P23.out.1.2.1.mono HB2.out.size))).2.2 (g5, boxS (.pointer pa) rt5) (by simp)).1).2) (fun hHeld23 => ?_)
      clear hK K
      try simp only [Act.put, List.getElem_toArray, List.getElem_cons_zero, List.getElem_cons_succ]
      refine wpAnyH_take (i := 8) (v := ?_) rfl (by as_aux_lemma => kernel_rfl) (by as_aux_lemma => kernel_rfl) (by as_aux_lemma => kernel_rfl) (fun _ _ _ h => h) (Or.inl ⟨by as_aux_lemma => rfl, ?ym1424⟩) (by assumption) ?qm1424
      case ym1424 => (intro wz hSw; (try dsimp only at hSw); go_simp <;> with_reducible rfl)
      try simp only [Act.put, List.getElem_toArray, List.getElem_cons_zero, List.getElem_cons_succ, List.setIfInBounds_toArray, List.set_cons_zero, List.set_cons_succ]
      refine wpAnyH_done (by as_aux_lemma => kernel_rfl) ?_ _
      exact HJ gb b2 rtu _ ⟨o2, zsu, P23.out, HU.out.2⟩
    exact AllReadyH.nil
  case rest =>
  rintro g21 b2 rtu wd ⟨o2, zsu, hP, hT⟩
  have HY : Hid (∀ X, Below wd.heap.size wd X → PS wb X (.pointer (some ⟨b2, 0, none⟩)) o2 2 zsu (.slice none 0 0) [] [(g21, boxS (.pointer (some ⟨b2, 0, none⟩)) rtu)]) := Lib.hid fun X hX => hP.below hX
  have HTU := Lib.hid hT
  have HB3 : Hid (Below wb.heap.size wb wd) := Lib.hid hP.1.2.1
  clear hP hT HB2 B0 x0 x1
  obtain ⟨_, x0, x1⟩ := cellsS ((HX.out _ HB3.out).2.2 (g5, boxS (.pointer pa) rt5) (by simp)).1
  go_upto_region 15 with fail
  have HB2 := HB3
  have B0 : Hid (Below wd.heap.size wd wd.drew) := Lib.hid (below_drewN (Below.refl _ _) 1)
  refine join3 (fun (gb b2 : Nat) (u : World) => Below wd.heap.size wd u) ?GK (fun HJ => ?fork) ?rest
  case fork =>
    refine wp_region_held_drew (S := (fun X => X.cell? ⟨g5, 0, none⟩ = some (.pointer pa) ∧ X.cell? ⟨g5, 1, none⟩ = some (.int .i64 rt5))) (by as_aux_lemma => kernel_rfl) (cellsS ((HX.out _ (HB2.out.trans (B0.out.mono HB2.out.size))).2.2 (g5, boxS (.pointer pa) rt5) (by simp)).1).2 (fun hHeld0 => ?_)
    refine wpAnyH_take (i := 0) (v := ?_) rfl (by as_aux_lemma => kernel_rfl) (by as_aux_lemma => kernel_rfl) (by as_aux_lemma => kernel_rfl) (fun _ _ _ h => h) (Or.inl ⟨by as_aux_lemma => rfl, ?ym151⟩) (by assumption) ?qm151
    case ym151 => (intro wz hSw; (try dsimp only at hSw); go_simp <;> with_reducible rfl)
    try simp only [Act.put, List.getElem_toArray, List.getElem_cons_zero, List.setIfInBounds_toArray, List.set_cons_zero, List.set_cons_succ]
    refine wpAnyH_ready (rs := [1, 6]) (by as_aux_lemma => kernel_rfl) (by simp) ?_
    refine AllReadyH.cons rfl (fun K hK => ?bm152) ?cm152
    case bm152 =>
      go_simp
      refine (arnew_b 1 _).mono ?_
      rintro e u2 ⟨b2, rfl, hbe, hA, hb⟩
      rw [show roomOf 1 = 1 by decide] at hA
      have P2 : Hid (PS wd u2 (.pointer (some ⟨b2, 0, none⟩)) none 1 [] (.slice none 0 0) [] []) := Lib.hid (ps_new0 B0.out hbe hA hb)
      clear hbe hA hb
      refine hK.out _ _ ((cellsS ((HX.out _ (HB2.out.trans (P2.out.1.2.1.mono HB2.out.size))).2.2 (g5, boxS (.pointer pa) rt5) (by simp)).1).2) (fun hHeld2 => ?_)
      clear hK K
      try simp only [Act.put, List.getElem_toArray, List.getElem_cons_zero, List.getElem_cons_succ, List.setIfInBounds_toArray, List.set_cons_zero, List.set_cons_succ]
      refine wpAnyH_ready (rs := [2, 6]) (by as_aux_lemma => kernel_rfl) (by simp) ?_
      refine AllReadyH.cons rfl (fun K hK => ?bm153) ?cm153
      case bm153 =>
        go_simp
        refine (psmove (HX.out _ (HB2.out.trans (P2.out.1.2.1.mono HB2.out.size))).1.1 (t := T2) (root := rt5) H4.out.1 (by rw [T2_f.1]; decide) P2.out.1.1 HOK.out).mono ?_
        intro e u3 hp
        obtain ⟨rtu, why, zsu, hs, hM⟩ := hp.step
        obtain ⟨rfl, o2, P3⟩ := P2.out.step hs
        have HU : Hid (why = 2 ∧ rtu = 0) := Lib.hid (match hM.out with | .inl ⟨_, ⟨⟨nw, he, hn⟩, _⟩⟩ => absurd P3.out.1.1.le.1 (by rw [he]; simp; rw [hn, T2_f.1]; decide) | .inr ⟨h, _, h2, _⟩ => ⟨h, h2⟩)
        obtain ⟨rfl, rfl⟩ : why = 2 ∧ rtu = 0 := HU.out
        clear hp hs hM P2
        refine hK.out _ _ ((cellsS ((HX.out _ (HB2.out.trans (P3.out.1.2.1.mono HB2.out.size))).2.2 (g5, boxS (.pointer pa) rt5) (by simp)).1).2) (fun hHeld3 => ?_)
        clear hK K
        try simp only [Act.put, List.getElem_toArray, List.getElem_cons_zero, List.getElem_cons_succ, List.setIfInBounds_toArray, List.set_cons_zero, List.set_cons_succ]
        refine wpAnyH_take (i := 3) (v := ?_) rfl (by as_aux_lemma => kernel_rfl) (by as_aux_lemma => kernel_rfl) (by as_aux_lemma => kernel_rfl) (fun _ _ _ h => h) (Or.inl ⟨by as_aux_lemma => rfl, ?ym154⟩) (by assumption) ?qm154
        case ym154 => (intro wz hSw; (try dsimp only at hSw); go_simp <;> with_reducible rfl)
        try simp only [Act.put, List.getElem_toArray, List.getElem_cons_zero, List.getElem_cons_succ, List.setIfInBounds_toArray, List.set_cons_zero, List.set_cons_succ]
        refine wpAnyH_take (i := 4) (v := ?_) rfl (by as_aux_lemma => kernel_rfl) (by as_aux_lemma => kernel_rfl) (by as_aux_lemma => kernel_rfl) (fun _ _ _ h => h) (Or.inl ⟨by as_aux_lemma => rfl, ?ym155⟩) (by assumption) ?qm155
        case ym155 => (intro wz hSw; (try dsimp only at hSw); go_simp <;> with_reducible rfl)
        try simp only [Act.put, List.getElem_toArray, List.getElem_cons_zero, List.getElem_cons_succ, List.setIfInBounds_toArray, List.set_cons_zero, List.set_cons_succ]
        refine wpAnyH_take (i := 5) (v := ?_) rfl (by as_aux_lemma => kernel_rfl) (by as_aux_lemma => kernel_rfl) (by as_aux_lemma => kernel_rfl) (fun _ _ _ h => h) (Or.inl ⟨by as_aux_lemma => rfl, ?ym156⟩) (by assumption) ?qm156
        case ym156 => (intro wz hSw; (try dsimp only at hSw); go_simp <;> with_reducible rfl)
        try simp only [Act.put, List.getElem_toArray, List.getElem_cons_zero, List.getElem_cons_succ, List.setIfInBounds_toArray, List.set_cons_zero, List.set_cons_succ]
        refine wpAnyH_ready (rs := [6]) (by as_aux_lemma => kernel_rfl) (by simp) ?_
        refine AllReadyH.cons rfl (fun K hK => ?_) AllReadyH.nil
        rw [if_pos (by rfl)]
        refine wp_alloc_seq rfl ?_
        intro gb u7 hgb hu
        have P7 := Lib.hid (show PS wd u7 _ _ _ _ _ _ _ from (by rw [hu]; exact P3.out.addAt (boxS (.pointer none) 0) hgb))
        have DB : Hid (wd.heap.size ≤ gb) := Lib.hid (by rw [hgb]; exact P3.out.1.2.1.size)
        clear hu hgb P3
        refine hK.out _ _ ((cellsS ((HX.out _ (HB2.out.trans (P7.out.1.2.1.mono HB2.out.size))).2.2 (g5, boxS (.pointer pa) rt5) (by simp)).1).2) (fun hHeld7 => ?_)
        clear hK K
        try simp only [Act.put, List.getElem_toArray, List.getElem_cons_zero, List.getElem_cons_succ, List.setIfInBounds_toArray, List.set_cons_zero, List.set_cons_succ]
        refine wpAnyH_ready (rs := [7]) (by as_aux_lemma => kernel_rfl) (by simp) ?_
        refine AllReadyH.cons rfl (fun K hK => ?_) AllReadyH.nil
        refine wp_store_seq (.tmp 23) (.tmp 87) rfl gb (some ⟨b2, 0, none⟩) none 0 0 rfl rfl (P7.out.2.2 (gb, boxS (.pointer none) 0) (by simp)).1 ?_
        intro u8 hst
        have P8 := Lib.hid (P7.out.store (fun q hq => by cases hq) DB.out hst)
        clear hst P7
        refine hK.out _ _ ((cellsS ((HX.out _ (HB2.out.trans (P8.out.1.2.1.mono HB2.out.size))).2.2 (g5, boxS (.pointer pa) rt5) (by simp)).1).2) (fun hHeld8 => ?_)
        clear hK K
        try simp only [Act.put, List.getElem_toArray, List.getElem_cons_zero, List.getElem_cons_succ]
        refine wpAnyH_take (i := 8) (v := ?_) rfl (by as_aux_lemma => kernel_rfl) (by as_aux_lemma => kernel_rfl) (by as_aux_lemma => kernel_rfl) (fun _ _ _ h => h) (Or.inl ⟨by as_aux_lemma => rfl, ?ym159⟩) (by assumption) ?qm159
        case ym159 => (intro wz hSw; (try dsimp only at hSw); go_simp <;> with_reducible rfl)
        try simp only [Act.put, List.getElem_toArray, List.getElem_cons_zero, List.getElem_cons_succ, List.setIfInBounds_toArray, List.set_cons_zero, List.set_cons_succ]
        refine wpAnyH_done (by as_aux_lemma => kernel_rfl) ?_ _
        exact HJ gb b2 _ P8.out.1.2.1
      refine AllReadyH.cons rfl (fun K hK => ?bm1510) ?cm1510
      case bm1510 =>
        rw [if_pos (by rfl)]
        refine wp_alloc_seq rfl ?_
        intro gb u10 hgb hu
        have P10 := Lib.hid (show PS wd u10 _ _ _ _ _ _ _ from (by rw [hu]; exact P2.out.addAt (boxS (.pointer none) 0) hgb))
        have DB : Hid (wd.heap.size ≤ gb) := Lib.hid (by rw [hgb]; exact P2.out.1.2.1.size)
        clear hu hgb P2
        refine hK.out _ _ ((cellsS ((HX.out _ (HB2.out.trans (P10.out.1.2.1.mono HB2.out.size))).2.2 (g5, boxS (.pointer pa) rt5) (by simp)).1).2) (fun hHeld10 => ?_)
        clear hK K
        try simp only [Act.put, List.getElem_toArray, List.getElem_cons_zero, List.getElem_cons_succ, List.setIfInBounds_toArray, List.set_cons_zero, List.set_cons_succ]
        refine wpAnyH_ready (rs := [2]) (by as_aux_lemma => kernel_rfl) (by simp) ?_
        refine AllReadyH.cons rfl (fun K hK => ?_) AllReadyH.nil
        go_simp
        refine (psmove (HX.out _ (HB2.out.trans (P10.out.1.2.1.mono HB2.out.size))).1.1 (t := T2) (root := rt5) H4.out.1 (by rw [T2_f.1]; decide) P10.out.1.1 HOK.out).mono ?_
        intro e u11 hp
        obtain ⟨rtu, why, zsu, hs, hM⟩ := hp.step
        obtain ⟨rfl, o2, P11⟩ := P10.out.step hs
        have HU : Hid (why = 2 ∧ rtu = 0) := Lib.hid (match hM.out with | .inl ⟨_, ⟨⟨nw, he, hn⟩, _⟩⟩ => absurd P11.out.1.1.le.1 (by rw [he]; simp; rw [hn, T2_f.1]; decide) | .inr ⟨h, _, h2, _⟩ => ⟨h, h2⟩)
        obtain ⟨rfl, rfl⟩ : why = 2 ∧ rtu = 0 := HU.out
        clear hp hs hM P10
        refine hK.out _ _ ((cellsS ((HX.out _ (HB2.out.trans (P11.out.1.2.1.mono HB2.out.size))).2.2 (g5, boxS (.pointer pa) rt5) (by simp)).1).2) (fun hHeld11 => ?_)
        clear hK K
        try simp only [Act.put, List.getElem_toArray, List.getElem_cons_zero, List.getElem_cons_succ, List.setIfInBounds_toArray, List.set_cons_zero, List.set_cons_succ]
        refine wpAnyH_take (i := 3) (v := ?_) rfl (by as_aux_lemma => kernel_rfl) (by as_aux_lemma => kernel_rfl) (by as_aux_lemma => kernel_rfl) (fun _ _ _ h => h) (Or.inl ⟨by as_aux_lemma => rfl, ?ym1512⟩) (by assumption) ?qm1512
        case ym1512 => (intro wz hSw; (try dsimp only at hSw); go_simp <;> with_reducible rfl)
        try simp only [Act.put, List.getElem_toArray, List.getElem_cons_zero, List.getElem_cons_succ, List.setIfInBounds_toArray, List.set_cons_zero, List.set_cons_succ]
        refine wpAnyH_take (i := 4) (v := ?_) rfl (by as_aux_lemma => kernel_rfl) (by as_aux_lemma => kernel_rfl) (by as_aux_lemma => kernel_rfl) (fun _ _ _ h => h) (Or.inl ⟨by as_aux_lemma => rfl, ?ym1513⟩) (by assumption) ?qm1513
        case ym1513 => (intro wz hSw; (try dsimp only at hSw); go_simp <;> with_reducible rfl)
        try simp only [Act.put, List.getElem_toArray, List.getElem_cons_zero, List.getElem_cons_succ, List.setIfInBounds_toArray, List.set_cons_zero, List.set_cons_succ]
        refine wpAnyH_take (i := 5) (v := ?_) rfl (by as_aux_lemma => kernel_rfl) (by as_aux_lemma => kernel_rfl) (by as_aux_lemma => kernel_rfl) (fun _ _ _ h => h) (Or.inl ⟨by as_aux_lemma => rfl, ?ym1514⟩) (by assumption) ?qm1514
        case ym1514 => (intro wz hSw; (try dsimp only at hSw); go_simp <;> with_reducible rfl)
        try simp only [Act.put, List.getElem_toArray, List.getElem_cons_zero, List.getElem_cons_succ, List.setIfInBounds_toArray, List.set_cons_zero, List.set_cons_succ]
        refine wpAnyH_ready (rs := [7]) (by as_aux_lemma => kernel_rfl) (by simp) ?_
        refine AllReadyH.cons rfl (fun K hK => ?_) AllReadyH.nil
        refine wp_store_seq (.tmp 23) (.tmp 87) rfl gb (some ⟨b2, 0, none⟩) none 0 0 rfl rfl (P11.out.2.2 (gb, boxS (.pointer none) 0) (by simp)).1 ?_
        intro u15 hst
        have P15 := Lib.hid (P11.out.store (fun q hq => by cases hq) DB.out hst)
        clear hst P11
        refine hK.out _ _ ((cellsS ((HX.out _ (HB2.out.trans (P15.out.1.2.1.mono HB2.out.size))).2.2 (g5, boxS (.pointer pa) rt5) (by simp)).1).2) (fun hHeld15 => ?_)
        clear hK K
        try simp only [Act.put, List.getElem_toArray, List.getElem_cons_zero, List.getElem_cons_succ]
        refine wpAnyH_take (i := 8) (v := ?_) rfl (by as_aux_lemma => kernel_rfl) (by as_aux_lemma => kernel_rfl) (by as_aux_lemma => kernel_rfl) (fun _ _ _ h => h) (Or.inl ⟨by as_aux_lemma => rfl, ?ym1516⟩) (by assumption) ?qm1516
        case ym1516 => (intro wz hSw; (try dsimp only at hSw); go_simp <;> with_reducible rfl)
        try simp only [Act.put, List.getElem_toArray, List.getElem_cons_zero, List.getElem_cons_succ, List.setIfInBounds_toArray, List.set_cons_zero, List.set_cons_succ]
        refine wpAnyH_done (by as_aux_lemma => kernel_rfl) ?_ _
        exact HJ gb b2 _ P15.out.1.2.1
      exact AllReadyH.nil
    refine AllReadyH.cons rfl (fun K hK => ?bm1517) ?cm1517
    case bm1517 =>
      rw [if_pos (by rfl)]
      refine wp_alloc_seq rfl ?_
      intro gb u17 hgb hu
      have B17 : Hid (Below wd.heap.size wd u17) := Lib.hid (by rw [hu]; exact B0.out.alloc B0.out.size _)
      have DB : Hid (wd.heap.size ≤ gb) := Lib.hid (by rw [hgb]; exact B0.out.size)
      have D0 : Hid (u17.heap[gb]? = some (boxS (.pointer none) 0)) := Lib.hid (by rw [hu, hgb]; exact heap_alloc_at _ _ _ rfl)
      clear hu hgb
      refine hK.out _ _ ((cellsS ((HX.out _ (HB2.out.trans (B17.out.mono HB2.out.size))).2.2 (g5, boxS (.pointer pa) rt5) (by simp)).1).2) (fun hHeld17 => ?_)
      clear hK K
      try simp only [Act.put, List.getElem_toArray, List.getElem_cons_zero, List.getElem_cons_succ, List.setIfInBounds_toArray, List.set_cons_zero, List.set_cons_succ]
      refine wpAnyH_ready (rs := [1]) (by as_aux_lemma => kernel_rfl) (by simp) ?_
      refine AllReadyH.cons rfl (fun K hK => ?_) AllReadyH.nil
      go_simp
      refine (arnew_b 1 _).mono ?_
      rintro e u18 ⟨b2, rfl, hbe, hA, hb⟩
      rw [show roomOf 1 = 1 by decide] at hA
      have P18 : Hid (PS wd u18 (.pointer (some ⟨b2, 0, none⟩)) none 1 [] (.slice none 0 0) [] [(gb, boxS (.pointer none) 0)]) := Lib.hid (ps_new B17.out D0.out hbe hA hb)
      clear D0
      clear hbe hA hb
      refine hK.out _ _ ((cellsS ((HX.out _ (HB2.out.trans (P18.out.1.2.1.mono HB2.out.size))).2.2 (g5, boxS (.pointer pa) rt5) (by simp)).1).2) (fun hHeld18 => ?_)
      clear hK K
      try simp only [Act.put, List.getElem_toArray, List.getElem_cons_zero, List.getElem_cons_succ, List.setIfInBounds_toArray, List.set_cons_zero, List.set_cons_succ]
      refine wpAnyH_ready (rs := [2]) (by as_aux_lemma => kernel_rfl) (by simp) ?_
      refine AllReadyH.cons rfl (fun K hK => ?_) AllReadyH.nil
      go_simp
      refine (psmove (HX.out _ (HB2.out.trans (P18.out.1.2.1.mono HB2.out.size))).1.1 (t := T2) (root := rt5) H4.out.1 (by rw [T2_f.1]; decide) P18.out.1.1 HOK.out).mono ?_
      intro e u19 hp
      obtain ⟨rtu, why, zsu, hs, hM⟩ := hp.step
      obtain ⟨rfl, o2, P19⟩ := P18.out.step hs
      have HU : Hid (why = 2 ∧ rtu = 0) := Lib.hid (match hM.out with | .inl ⟨_, ⟨⟨nw, he, hn⟩, _⟩⟩ => absurd P19.out.1.1.le.1 (by rw [he]; simp; rw [hn, T2_f.1]; decide) | .inr ⟨h, _, h2, _⟩ => ⟨h, h2⟩)
      obtain ⟨rfl, rfl⟩ : why = 2 ∧ rtu = 0 := HU.out
      clear hp hs hM P18
      refine hK.out _ _ ((cellsS ((HX.out _ (HB2.out.trans (P19.out.1.2.1.mono HB2.out.size))).2.2 (g5, boxS (.pointer pa) rt5) (by simp)).1).2) (fun hHeld19 => ?_)
      clear hK K
      try simp only [Act.put, List.getElem_toArray, List.getElem_cons_zero, List.getElem_cons_succ, List.setIfInBounds_toArray, List.set_cons_zero, List.set_cons_succ]
      refine wpAnyH_take (i := 3) (v := ?_) rfl (by as_aux_lemma => kernel_rfl) (by as_aux_lemma => kernel_rfl) (by as_aux_lemma => kernel_rfl) (fun _ _ _ h => h) (Or.inl ⟨by as_aux_lemma => rfl, ?ym1520⟩) (by assumption) ?qm1520
      case ym1520 => (intro wz hSw; (try dsimp only at hSw); go_simp <;> with_reducible rfl)
      try simp only [Act.put, List.getElem_toArray, List.getElem_cons_zero, List.getElem_cons_succ, List.setIfInBounds_toArray, List.set_cons_zero, List.set_cons_succ]
      refine wpAnyH_take (i := 4) (v := ?_) rfl (by as_aux_lemma => kernel_rfl) (by as_aux_lemma => kernel_rfl) (by as_aux_lemma => kernel_rfl) (fun _ _ _ h => h) (Or.inl ⟨by as_aux_lemma => rfl, ?ym1521⟩) (by assumption) ?qm1521
      case ym1521 => (intro wz hSw; (try dsimp only at hSw); go_simp <;> with_reducible rfl)
      try simp only [Act.put, List.getElem_toArray, List.getElem_cons_zero, List.getElem_cons_succ, List.setIfInBounds_toArray, List.set_cons_zero, List.set_cons_succ]
      refine wpAnyH_take (i := 5) (v := ?_) rfl (by as_aux_lemma => kernel_rfl) (by as_aux_lemma => kernel_rfl) (by as_aux_lemma => kernel_rfl) (fun _ _ _ h => h) (Or.inl ⟨by as_aux_lemma => rfl, ?ym1522⟩) (by assumption) ?qm1522
      case ym1522 => (intro wz hSw; (try dsimp only at hSw); go_simp <;> with_reducible rfl)
      try simp only [Act.put, List.getElem_toArray, List.getElem_cons_zero, List.getElem_cons_succ, List.setIfInBounds_toArray, List.set_cons_zero, List.set_cons_succ]
      refine wpAnyH_ready (rs := [7]) (by as_aux_lemma => kernel_rfl) (by simp) ?_
      refine AllReadyH.cons rfl (fun K hK => ?_) AllReadyH.nil
      refine wp_store_seq (.tmp 23) (.tmp 87) rfl gb (some ⟨b2, 0, none⟩) none 0 0 rfl rfl (P19.out.2.2 (gb, boxS (.pointer none) 0) (by simp)).1 ?_
      intro u23 hst
      have P23 := Lib.hid (P19.out.store (fun q hq => by cases hq) DB.out hst)
      clear hst P19
      refine hK.out _ _ ((cellsS ((HX.out _ (HB2.out.trans (P23.out.1.2.1.mono HB2.out.size))).2.2 (g5, boxS (.pointer pa) rt5) (by simp)).1).2) (fun hHeld23 => ?_)
      clear hK K
      try simp only [Act.put, List.getElem_toArray, List.getElem_cons_zero, List.getElem_cons_succ]
      refine wpAnyH_take (i := 8) (v := ?_) rfl (by as_aux_lemma => kernel_rfl) (by as_aux_lemma => kernel_rfl) (by as_aux_lemma => kernel_rfl) (fun _ _ _ h => h) (Or.inl ⟨by as_aux_lemma => rfl, ?ym1524⟩) (by assumption) ?qm1524
      case ym1524 => (intro wz hSw; (try dsimp only at hSw); go_simp <;> with_reducible rfl)
      try simp only [Act.put, List.getElem_toArray, List.getElem_cons_zero, List.getElem_cons_succ, List.setIfInBounds_toArray, List.set_cons_zero, List.set_cons_succ]
      refine wpAnyH_done (by as_aux_lemma => kernel_rfl) ?_ _
      exact HJ gb b2 _ P23.out.1.2.1
    exact AllReadyH.nil
  case rest =>
  rintro g23 b3 we hE
  have HBE := Lib.hid hE
  clear hE HB2 B0 x0 x1
  have HNP : Hid (∀ root', ¬ PutP [] (3 * Tre.nil.high + 1) (Tre.insAt 0 1 .nil) [] root') := Lib.hid fun root' h => by
    have := h.2.1
    simp at this
    omega
  go_wp2_with fail
  refine (psinsert 0 1 (by omega) (ArV.nil _) (t := .nil) (root := 0) rfl trivial (by decide) (by decide)).mono ?_
  intro e wf hp
  obtain ⟨rfl, hb⟩ := hp.nil_put HNP.out
  have HBF : Hid (Below wd.heap.size wd wf) := Lib.hid (HBE.out.trans (hb.mono HBE.out.size))
  clear hp hb HBE HNP
  have HZ : Hid (∀ X, Below wd.heap.size wd X → ((X.cell? ⟨g5, 0, none⟩ = some (.pointer pa) ∧ X.cell? ⟨g5, 1, none⟩ = some (.int .i64 rt5)) ∧ (X.cell? ⟨g2, 0, none⟩ = some (.pointer pa) ∧ X.cell? ⟨g2, 1, none⟩ = some (.int .i64 0)) ∧ (X.cell? ⟨g9, 0, none⟩ = some (.pointer pa) ∧ X.cell? ⟨g9, 1, none⟩ = some (.int .i64 rt9)) ∧ (X.cell? ⟨g21, 0, none⟩ = some (.pointer (some ⟨b2, 0, none⟩)) ∧ X.cell? ⟨g21, 1, none⟩ = some (.int .i64 rtu))) ∧ (PS w X (.pointer pa) o15 40 zs15 (.slice none 0 0) [] [(g15, boxS (.pointer pa) rt15), (g13, boxS (.pointer pa) 0), (g11, boxS (.pointer pa) 0), (g9, boxS (.pointer pa) rt9), (g7, boxS (.pointer pa) 0), (g5, boxS (.pointer pa) rt5), (g3, boxS (.pointer pa) rt3), (g2, boxS (.pointer pa) 0)] ∧ PS wb X (.pointer (some ⟨b2, 0, none⟩)) o2 2 zsu (.slice none 0 0) [] [(g21, boxS (.pointer (some ⟨b2, 0, none⟩)) rtu)])) := Lib.hid fun X hX => by
    have h1 := HX.out _ (HB3.out.trans (hX.mono HB3.out.size))
    have h2 := HY.out _ hX
    exact ⟨⟨(cellsS (h1.2.2 (g5, boxS (.pointer pa) rt5) (by simp)).1).2, (cellsS (h1.2.2 (g2, boxS (.pointer pa) 0) (by simp)).1).2, (cellsS (h1.2.2 (g9, boxS (.pointer pa) rt9) (by simp)).1).2, (cellsS (h2.2.2 (g21, boxS (.pointer (some ⟨b2, 0, none⟩)) rtu) (by simp)).1).2⟩, h1, h2⟩
  go_upto_region 17 with fail
  simp only [List.append_eq, List.cons_append, List.nil_append]
  have B0 : Hid (Below wd.heap.size wd (wf.alloc (.cells #[.pointer none, .int .i64 0] 27)).drew) := Lib.hid (below_drewN (HBF.out.alloc HBF.out.size _) 1)
  refine wp_region_held_drew (S := (fun X => (X.cell? ⟨g5, 0, none⟩ = some (.pointer pa) ∧ X.cell? ⟨g5, 1, none⟩ = some (.int .i64 rt5)) ∧ (X.cell? ⟨g2, 0, none⟩ = some (.pointer pa) ∧ X.cell? ⟨g2, 1, none⟩ = some (.int .i64 0)) ∧ (X.cell? ⟨g9, 0, none⟩ = some (.pointer pa) ∧ X.cell? ⟨g9, 1, none⟩ = some (.int .i64 rt9)) ∧ (X.cell? ⟨g21, 0, none⟩ = some (.pointer (some ⟨b2, 0, none⟩)) ∧ X.cell? ⟨g21, 1, none⟩ = some (.int .i64 rtu)))) (by as_aux_lemma => kernel_rfl) (HZ.out _ B0.out).1 (fun hHeld0 => ?_)
  obtain ⟨W0, hW0⟩ : ∃ W, W = (wf.alloc (.cells #[.pointer none, .int .i64 0] 27)).drew := ⟨_, rfl⟩
  rw [← hW0] at B0 hHeld0 ⊢
  clear hW0
  refine wpAnyH_take (i := 0) (v := ?_) rfl (by as_aux_lemma => kernel_rfl) (by as_aux_lemma => kernel_rfl) (by as_aux_lemma => kernel_rfl) (fun _ _ _ h => h) (Or.inl ⟨by as_aux_lemma => rfl, ?yz0⟩) (by assumption) ?qz0
  case yz0 => (intro wz hSw; (try dsimp only at hSw); go_simp <;> with_reducible rfl)
  try simp only [Act.put, List.getElem_toArray, List.getElem_cons_zero, List.setIfInBounds_toArray, List.set_cons_zero, List.set_cons_succ]
  refine wpAnyH_take (i := 1) (v := ?_) rfl (by as_aux_lemma => kernel_rfl) (by as_aux_lemma => kernel_rfl) (by as_aux_lemma => kernel_rfl) (fun _ _ _ h => h) (Or.inl ⟨by as_aux_lemma => rfl, ?yz1⟩) (by assumption) ?qz1
  case yz1 => (intro wz hSw; (try dsimp only at hSw); go_simp <;> with_reducible rfl)
  try simp only [Act.put, List.getElem_toArray, List.getElem_cons_zero, List.getElem_cons_succ, List.setIfInBounds_toArray, List.set_cons_zero, List.set_cons_succ]
  refine wpAnyH_take (i := 2) (v := ?_) rfl (by as_aux_lemma => kernel_rfl) (by as_aux_lemma => kernel_rfl) (by as_aux_lemma => kernel_rfl) (fun _ _ _ h => h) (Or.inl ⟨by as_aux_lemma => rfl, ?yz2⟩) (by assumption) ?qz2
  case yz2 => (intro wz hSw; (try dsimp only at hSw); go_simp <;> with_reducible rfl)
  try simp only [Act.put, List.getElem_toArray, List.getElem_cons_zero, List.getElem_cons_succ, List.setIfInBounds_toArray, List.set_cons_zero, List.set_cons_succ]
  refine wpAnyH_take (i := 3) (v := ?_) rfl (by as_aux_lemma => kernel_rfl) (by as_aux_lemma => kernel_rfl) (by as_aux_lemma => kernel_rfl) (fun _ _ _ h => h) (Or.inl ⟨by as_aux_lemma => rfl, ?yz3⟩) (by assumption) ?qz3
  case yz3 => (intro wz hSw; (try dsimp only at hSw); go_simp <;> with_reducible rfl)
  try simp only [Act.put, List.getElem_toArray, List.getElem_cons_zero, List.getElem_cons_succ, List.setIfInBounds_toArray, List.set_cons_zero, List.set_cons_succ]
  refine wpAnyH_take (i := 4) (v := ?_) rfl (by as_aux_lemma => kernel_rfl) (by as_aux_lemma => kernel_rfl) (by as_aux_lemma => kernel_rfl) (fun _ _ _ h => h) (Or.inl ⟨by as_aux_lemma => rfl, ?yz4⟩) (by assumption) ?qz4
  case yz4 => (intro wz hSw; (try dsimp only at hSw); go_simp <;> with_reducible rfl)
  try simp only [Act.put, List.getElem_toArray, List.getElem_cons_zero, List.getElem_cons_succ, List.setIfInBounds_toArray, List.set_cons_zero, List.set_cons_succ]
  refine wpAnyH_take (i := 5) (v := ?_) rfl (by as_aux_lemma => kernel_rfl) (by as_aux_lemma => kernel_rfl) (by as_aux_lemma => kernel_rfl) (fun _ _ _ h => h) (Or.inl ⟨by as_aux_lemma => rfl, ?yz5⟩) (by assumption) ?qz5
  case yz5 => (intro wz hSw; (try dsimp only at hSw); go_simp <;> with_reducible rfl)
  try simp only [Act.put, List.getElem_toArray, List.getElem_cons_zero, List.getElem_cons_succ, List.setIfInBounds_toArray, List.set_cons_zero, List.set_cons_succ]
  refine wpAnyH_take (i := 6) (v := ?_) rfl (by as_aux_lemma => kernel_rfl) (by as_aux_lemma => kernel_rfl) (by as_aux_lemma => kernel_rfl) (fun _ _ _ h => h) (Or.inl ⟨by as_aux_lemma => rfl, ?yz6⟩) (by assumption) ?qz6
  case yz6 => (intro wz hSw; (try dsimp only at hSw); go_simp <;> with_reducible rfl)
  try simp only [Act.put, List.getElem_toArray, List.getElem_cons_zero, List.getElem_cons_succ, List.setIfInBounds_toArray, List.set_cons_zero, List.set_cons_succ]
  refine wpAnyH_take (i := 7) (v := ?_) rfl (by as_aux_lemma => kernel_rfl) (by as_aux_lemma => kernel_rfl) (by as_aux_lemma => kernel_rfl) (fun _ _ _ h => h) (Or.inl ⟨by as_aux_lemma => rfl, ?yz7⟩) (by assumption) ?qz7
  case yz7 => (intro wz hSw; (try dsimp only at hSw); go_simp <;> with_reducible rfl)
  try simp only [Act.put, List.getElem_toArray, List.getElem_cons_zero, List.getElem_cons_succ, List.setIfInBounds_toArray, List.set_cons_zero, List.set_cons_succ]
  refine wpAnyH_take (i := 8) (v := ?_) rfl (by as_aux_lemma => kernel_rfl) (by as_aux_lemma => kernel_rfl) (by as_aux_lemma => kernel_rfl) (fun _ _ _ h => h) (Or.inl ⟨by as_aux_lemma => rfl, ?yz8⟩) (by assumption) ?qz8
  case yz8 => (intro wz hSw; (try dsimp only at hSw); go_simp <;> with_reducible rfl)
  try simp only [Act.put, List.getElem_toArray, List.getElem_cons_zero, List.getElem_cons_succ, List.setIfInBounds_toArray, List.set_cons_zero, List.set_cons_succ]
  refine wpAnyH_take (i := 9) (v := ?_) rfl (by as_aux_lemma => kernel_rfl) (by as_aux_lemma => kernel_rfl) (by as_aux_lemma => kernel_rfl) (fun _ _ _ h => h) (Or.inl ⟨by as_aux_lemma => rfl, ?yz9⟩) (by assumption) ?qz9
  case yz9 => (intro wz hSw; (try dsimp only at hSw); go_simp <;> with_reducible rfl)
  try simp only [Act.put, List.getElem_toArray, List.getElem_cons_zero, List.getElem_cons_succ, List.setIfInBounds_toArray, List.set_cons_zero, List.set_cons_succ]
  refine wpAnyH_take (i := 10) (v := ?_) rfl (by as_aux_lemma => kernel_rfl) (by as_aux_lemma => kernel_rfl) (by as_aux_lemma => kernel_rfl) (fun _ _ _ h => h) (Or.inl ⟨by as_aux_lemma => rfl, ?yz10⟩) (by assumption) ?qz10
  case yz10 => (intro wz hSw; (try dsimp only at hSw); go_simp <;> with_reducible rfl)
  try simp only [Act.put, List.getElem_toArray, List.getElem_cons_zero, List.getElem_cons_succ, List.setIfInBounds_toArray, List.set_cons_zero, List.set_cons_succ]
  refine wpAnyH_take (i := 11) (v := ?_) rfl (by as_aux_lemma => kernel_rfl) (by as_aux_lemma => kernel_rfl) (by as_aux_lemma => kernel_rfl) (fun _ _ _ h => h) (Or.inl ⟨by as_aux_lemma => rfl, ?yz11⟩) (by assumption) ?qz11
  case yz11 => (intro wz hSw; (try dsimp only at hSw); go_simp <;> with_reducible rfl)
  try simp only [Act.put, List.getElem_toArray, List.getElem_cons_zero, List.getElem_cons_succ, List.setIfInBounds_toArray, List.set_cons_zero, List.set_cons_succ]
  refine wpAnyH_take (i := 12) (v := ?_) rfl (by as_aux_lemma => kernel_rfl) (by as_aux_lemma => kernel_rfl) (by as_aux_lemma => kernel_rfl) (fun _ _ _ h => h) (Or.inl ⟨by as_aux_lemma => rfl, ?yz12⟩) (by assumption) ?qz12
  case yz12 => (intro wz hSw; (try dsimp only at hSw); go_simp <;> with_reducible rfl)
  try simp only [Act.put, List.getElem_toArray, List.getElem_cons_zero, List.getElem_cons_succ, List.setIfInBounds_toArray, List.set_cons_zero, List.set_cons_succ]
  refine wpAnyH_take (i := 13) (v := ?_) rfl (by as_aux_lemma => kernel_rfl) (by as_aux_lemma => kernel_rfl) (by as_aux_lemma => kernel_rfl) (fun _ _ _ h => h) (Or.inl ⟨by as_aux_lemma => rfl, ?yz13⟩) (by assumption) ?qz13
  case yz13 => (intro wz hSw; (try dsimp only at hSw); go_simp <;> with_reducible rfl)
  try simp only [Act.put, List.getElem_toArray, List.getElem_cons_zero, List.getElem_cons_succ, List.setIfInBounds_toArray, List.set_cons_zero, List.set_cons_succ]
  refine wpAnyH_take (i := 14) (v := ?_) rfl (by as_aux_lemma => kernel_rfl) (by as_aux_lemma => kernel_rfl) (by as_aux_lemma => kernel_rfl) (fun _ _ _ h => h) (Or.inl ⟨by as_aux_lemma => rfl, ?yz14⟩) (by assumption) ?qz14
  case yz14 => (intro wz hSw; (try dsimp only at hSw); go_simp <;> with_reducible rfl)
  try simp only [Act.put, List.getElem_toArray, List.getElem_cons_zero, List.getElem_cons_succ, List.setIfInBounds_toArray, List.set_cons_zero, List.set_cons_succ]
  refine wpAnyH_take (i := 15) (v := ?_) rfl (by as_aux_lemma => kernel_rfl) (by as_aux_lemma => kernel_rfl) (by as_aux_lemma => kernel_rfl) (fun _ _ _ h => h) (Or.inl ⟨by as_aux_lemma => rfl, ?yz15⟩) (by assumption) ?qz15
  case yz15 => (intro wz hSw; (try dsimp only at hSw); go_simp <;> with_reducible rfl)
  try simp only [Act.put, List.getElem_toArray, List.getElem_cons_zero, List.getElem_cons_succ, List.setIfInBounds_toArray, List.set_cons_zero, List.set_cons_succ]
  refine join3 (fun (x : Value) (p : Option Addr) (u : World) => Lst.Ints 0 u x [8, 6] ∧ Lst.Ints 0 u (.slice p 2 2) [8, 6] ∧ Below wd.heap.size wd u) ?Gz16 (fun HJ => ?fz16) ?rz16
  case fz16 =>
    refine wpAnyH_ready (rs := [16, 17]) (by as_aux_lemma => kernel_rfl) (by simp) ?_
    refine AllReadyH.cons rfl (fun K hK => ?bz16) ?cz16
    case bz16 =>
      go_simp
      refine (pslist (HZ.out _ B0.out).2.1.1.1 (t := T3) (root := rt9) H4.out.2 (by rw [T3_f.1]; decide)).mono ?_
      rintro e u1 ⟨x16, rfl, hown, hb⟩
      have hx := hown.ints (by rw [T3_f.2]; decide)
      rw [T3_f.2] at hx
      have F16 : Hid (Lst.Ints 0 u1 x16 [8, 6]) := Lib.hid hx
      have hb16 := Lib.hid hb
      have B1 := Lib.hid (Below.trans (show Below wd.heap.size wd _ from B0.out) (hb.mono (show wd.heap.size ≤ _ from Below.size B0.out)))
      clear hb hown hx
      refine hK.out _ _ (HZ.out _ B1.out).1 (fun hHeld1 => ?_)
      clear hK K
      try simp only [Act.put, List.getElem_toArray, List.getElem_cons_zero, List.getElem_cons_succ, List.setIfInBounds_toArray, List.set_cons_zero, List.set_cons_succ]
      refine wpAnyH_ready (rs := [17]) (by as_aux_lemma => kernel_rfl) (by simp) ?_
      refine AllReadyH.cons rfl (fun K hK => ?_) AllReadyH.nil
      go_simp
      obtain ⟨p2, hp2⟩ : ∃ p : Option Addr, p = some ⟨u1.heap.size, 0, none⟩ := ⟨_, rfl⟩
      obtain ⟨u2, hu2⟩ : ∃ U, U = u1.alloc (.cells #[.int .i64 8, .int .i64 6] 3) := ⟨_, rfl⟩
      have F17 : Hid (Lst.Ints 0 u2 (.slice p2 2 2) [8, 6]) := Lib.hid (by rw [hp2, hu2]; exact ints_two (heap_alloc_at _ _ _ rfl))
      have hb : Below u1.heap.size u1 u2 := by rw [hu2]; exact (Below.refl _ _).alloc (Nat.le_refl _) _
      have hb17 := Lib.hid hb
      rw [← hp2, ← hu2]
      clear hp2 hu2
      have B2 := Lib.hid (Below.trans (show Below wd.heap.size wd _ from B1.out) (hb.mono (show wd.heap.size ≤ _ from Below.size B1.out)))
      clear hb
      refine hK.out _ _ (HZ.out _ B2.out).1 (fun hHeld2 => ?_)
      clear hK K
      try simp only [Act.put, List.getElem_toArray, List.getElem_cons_zero, List.getElem_cons_succ, List.setIfInBounds_toArray, List.set_cons_zero, List.set_cons_succ]
      exact HJ _ _ _ ⟨F16.out.below hb17.out, F17.out, B2.out⟩
    refine AllReadyH.cons rfl (fun K hK => ?bz17) ?cz17
    case bz17 =>
      go_simp
      obtain ⟨p3, hp3⟩ : ∃ p : Option Addr, p = some ⟨W0.heap.size, 0, none⟩ := ⟨_, rfl⟩
      obtain ⟨u3, hu3⟩ : ∃ U, U = W0.alloc (.cells #[.int .i64 8, .int .i64 6] 3) := ⟨_, rfl⟩
      have F17 : Hid (Lst.Ints 0 u3 (.slice p3 2 2) [8, 6]) := Lib.hid (by rw [hp3, hu3]; exact ints_two (heap_alloc_at _ _ _ rfl))
      have hb : Below W0.heap.size W0 u3 := by rw [hu3]; exact (Below.refl _ _).alloc (Nat.le_refl _) _
      have hb17 := Lib.hid hb
      rw [← hp3, ← hu3]
      clear hp3 hu3
      have B3 := Lib.hid (Below.trans (show Below wd.heap.size wd _ from B0.out) (hb.mono (show wd.heap.size ≤ _ from Below.size B0.out)))
      clear hb
      refine hK.out _ _ (HZ.out _ B3.out).1 (fun hHeld3 => ?_)
      clear hK K
      try simp only [Act.put, List.getElem_toArray, List.getElem_cons_zero, List.getElem_cons_succ, List.setIfInBounds_toArray, List.set_cons_zero, List.set_cons_succ]
      refine wpAnyH_ready (rs := [16]) (by as_aux_lemma => kernel_rfl) (by simp) ?_
      refine AllReadyH.cons rfl (fun K hK => ?_) AllReadyH.nil
      go_simp
      refine (pslist (HZ.out _ B3.out).2.1.1.1 (t := T3) (root := rt9) H4.out.2 (by rw [T3_f.1]; decide)).mono ?_
      rintro e u4 ⟨x16, rfl, hown, hb⟩
      have hx := hown.ints (by rw [T3_f.2]; decide)
      rw [T3_f.2] at hx
      have F16 : Hid (Lst.Ints 0 u4 x16 [8, 6]) := Lib.hid hx
      have hb16 := Lib.hid hb
      have B4 := Lib.hid (Below.trans (show Below wd.heap.size wd _ from B3.out) (hb.mono (show wd.heap.size ≤ _ from Below.size B3.out)))
      clear hb hown hx
      refine hK.out _ _ (HZ.out _ B4.out).1 (fun hHeld4 => ?_)
      clear hK K
      try simp only [Act.put, List.getElem_toArray, List.getElem_cons_zero, List.getElem_cons_succ, List.setIfInBounds_toArray, List.set_cons_zero, List.set_cons_succ]
      rw [Array.setIfInBounds_comm _ _ (show 17 ≠ 16 by decide)]
      exact HJ _ _ _ ⟨F16.out, F17.out.below hb16.out, B4.out⟩
    exact AllReadyH.nil
  rintro x5 p5 u5 ⟨h1, h2, h3⟩
  have F16 := Lib.hid h1
  have F17 := Lib.hid h2
  have B5 := Lib.hid h3
  have hHeld5 := (HZ.out _ h3).1
  clear h1 h2 h3
  refine wpAnyH_ready (rs := [18]) (by as_aux_lemma => kernel_rfl) (by simp) ?_
  refine AllReadyH.cons rfl (fun K hK => ?_) AllReadyH.nil
  go_simp
  refine (sameI_yes F16.out F17.out).mono ?_
  rintro e u6 ⟨rfl, hb⟩
  have B6 := Lib.hid (Below.trans (show Below wd.heap.size wd _ from B5.out) (hb.mono (show wd.heap.size ≤ _ from Below.size B5.out)))
  clear hb
  refine hK.out _ _ (HZ.out _ B6.out).1 (fun hHeld6 => ?_)
  clear hK K
  try simp only [Act.put, List.getElem_toArray, List.getElem_cons_zero, List.getElem_cons_succ, List.setIfInBounds_toArray, List.set_cons_zero, List.set_cons_succ]
  refine wpAnyH_take (i := 19) (v := ?_) rfl (by as_aux_lemma => kernel_rfl) (by as_aux_lemma => kernel_rfl) (by as_aux_lemma => kernel_rfl) (fun _ _ _ h => h) (Or.inl ⟨by as_aux_lemma => rfl, ?yz19⟩) (by assumption) ?qz19
  case yz19 => (intro wz hSw; (try dsimp only at hSw); go_simp <;> with_reducible rfl)
  try simp only [Act.put, List.getElem_toArray, List.getElem_cons_zero, List.getElem_cons_succ, List.setIfInBounds_toArray, List.set_cons_zero, List.set_cons_succ]
  refine wpAnyH_take (i := 20) (v := ?_) rfl (by as_aux_lemma => kernel_rfl) (by as_aux_lemma => kernel_rfl) (by as_aux_lemma => kernel_rfl) (fun _ _ _ h => h) (Or.inl ⟨by as_aux_lemma => rfl, ?yz20⟩) (by assumption) ?qz20
  case yz20 => (intro wz hSw; (try dsimp only at hSw); go_simp <;> with_reducible rfl)
  try simp only [Act.put, List.getElem_toArray, List.getElem_cons_zero, List.getElem_cons_succ, List.setIfInBounds_toArray, List.set_cons_zero, List.set_cons_succ]
  refine wpAnyH_take (i := 21) (v := ?_) rfl (by as_aux_lemma => kernel_rfl) (by as_aux_lemma => kernel_rfl) (by as_aux_lemma => kernel_rfl) (fun _ _ _ h => h) (Or.inl ⟨by as_aux_lemma => rfl, ?yz21⟩) (by assumption) ?qz21
  case yz21 => (intro wz hSw; (try dsimp only at hSw); go_simp <;> with_reducible rfl)
  try simp only [Act.put, List.getElem_toArray, List.getElem_cons_zero, List.getElem_cons_succ, List.setIfInBounds_toArray, List.set_cons_zero, List.set_cons_succ]
  refine wpAnyH_take (i := 22) (v := ?_) rfl (by as_aux_lemma => kernel_rfl) (by as_aux_lemma => kernel_rfl) (by as_aux_lemma => kernel_rfl) (fun _ _ _ h => h) (Or.inl ⟨by as_aux_lemma => rfl, ?yz22⟩) (by assumption) ?qz22
  case yz22 => (intro wz hSw; (try dsimp only at hSw); go_simp <;> with_reducible rfl)
  try simp only [Act.put, List.getElem_toArray, List.getElem_cons_zero, List.getElem_cons_succ, List.setIfInBounds_toArray, List.set_cons_zero, List.set_cons_succ]
  refine wpAnyH_take (i := 23) (v := ?_) rfl (by as_aux_lemma => kernel_rfl) (by as_aux_lemma => kernel_rfl) (by as_aux_lemma => kernel_rfl) (fun _ _ _ h => h) (Or.inl ⟨by as_aux_lemma => rfl, ?yz23⟩) (by assumption) ?qz23
  case yz23 => (intro wz hSw; (try dsimp only at hSw); go_simp <;> with_reducible rfl)
  try simp only [Act.put, List.getElem_toArray, List.getElem_cons_zero, List.getElem_cons_succ, List.setIfInBounds_toArray, List.set_cons_zero, List.set_cons_succ]
  refine wpAnyH_take (i := 24) (v := ?_) rfl (by as_aux_lemma => kernel_rfl) (by as_aux_lemma => kernel_rfl) (by as_aux_lemma => kernel_rfl) (fun _ _ _ h => h) (Or.inl ⟨by as_aux_lemma => rfl, ?yz24⟩) (by assumption) ?qz24
  case yz24 => (intro wz hSw; (try dsimp only at hSw); go_simp <;> with_reducible rfl)
  try simp only [Act.put, List.getElem_toArray, List.getElem_cons_zero, List.getElem_cons_succ, List.setIfInBounds_toArray, List.set_cons_zero, List.set_cons_succ]
  refine wpAnyH_take (i := 25) (v := ?_) rfl (by as_aux_lemma => kernel_rfl) (by as_aux_lemma => kernel_rfl) (by as_aux_lemma => kernel_rfl) (fun _ _ _ h => h) (Or.inl ⟨by as_aux_lemma => rfl, ?yz25⟩) (by assumption) ?qz25
  case yz25 => (intro wz hSw; (try dsimp only at hSw); go_simp <;> with_reducible rfl)
  try simp only [Act.put, List.getElem_toArray, List.getElem_cons_zero, List.getElem_cons_succ, List.setIfInBounds_toArray, List.set_cons_zero, List.set_cons_succ]
  refine wpAnyH_take (i := 26) (v := ?_) rfl (by as_aux_lemma => kernel_rfl) (by as_aux_lemma => kernel_rfl) (by as_aux_lemma => kernel_rfl) (fun _ _ _ h => h) (Or.inl ⟨by as_aux_lemma => rfl, ?yz26⟩) (by assumption) ?qz26
  case yz26 => (intro wz hSw; (try dsimp only at hSw); go_simp <;> with_reducible rfl)
  try simp only [Act.put, List.getElem_toArray, List.getElem_cons_zero, List.getElem_cons_succ, List.setIfInBounds_toArray, List.set_cons_zero, List.set_cons_succ]
  refine wpAnyH_take (i := 27) (v := ?_) rfl (by as_aux_lemma => kernel_rfl) (by as_aux_lemma => kernel_rfl) (by as_aux_lemma => kernel_rfl) (fun _ _ _ h => h) (Or.inl ⟨by as_aux_lemma => rfl, ?yz27⟩) (by assumption) ?qz27
  case yz27 => (intro wz hSw; (try dsimp only at hSw); go_simp <;> with_reducible rfl)
  try simp only [Act.put, List.getElem_toArray, List.getElem_cons_zero, List.getElem_cons_succ, List.setIfInBounds_toArray, List.set_cons_zero, List.set_cons_succ]
  refine wpAnyH_take (i := 28) (v := ?_) rfl (by as_aux_lemma => kernel_rfl) (by as_aux_lemma => kernel_rfl) (by as_aux_lemma => kernel_rfl) (fun _ _ _ h => h) (Or.inl ⟨by as_aux_lemma => rfl, ?yz28⟩) (by assumption) ?qz28
  case yz28 => (intro wz hSw; (try dsimp only at hSw); go_simp <;> with_reducible rfl)
  try simp only [Act.put, List.getElem_toArray, List.getElem_cons_zero, List.getElem_cons_succ, List.setIfInBounds_toArray, List.set_cons_zero, List.set_cons_succ]
  refine wpAnyH_take (i := 29) (v := ?_) rfl (by as_aux_lemma => kernel_rfl) (by as_aux_lemma => kernel_rfl) (by as_aux_lemma => kernel_rfl) (fun _ _ _ h => h) (Or.inl ⟨by as_aux_lemma => rfl, ?yz29⟩) (by assumption) ?qz29
  case yz29 => (intro wz hSw; (try dsimp only at hSw); go_simp <;> with_reducible rfl)
  try simp only [Act.put, List.getElem_toArray, List.getElem_cons_zero, List.getElem_cons_succ, List.setIfInBounds_toArray, List.set_cons_zero, List.set_cons_succ]
  refine wpAnyH_take (i := 30) (v := ?_) rfl (by as_aux_lemma => kernel_rfl) (by as_aux_lemma => kernel_rfl) (by as_aux_lemma => kernel_rfl) (fun _ _ _ h => h) (Or.inl ⟨by as_aux_lemma => rfl, ?yz30⟩) (by assumption) ?qz30
  case yz30 => (intro wz hSw; (try dsimp only at hSw); go_simp <;> with_reducible rfl)
  try simp only [Act.put, List.getElem_toArray, List.getElem_cons_zero, List.getElem_cons_succ, List.setIfInBounds_toArray, List.set_cons_zero, List.set_cons_succ]
  refine wpAnyH_take (i := 31) (v := ?_) rfl (by as_aux_lemma => kernel_rfl) (by as_aux_lemma => kernel_rfl) (by as_aux_lemma => kernel_rfl) (fun _ _ _ h => h) (Or.inl ⟨by as_aux_lemma => rfl, ?yz31⟩) (by assumption) ?qz31
  case yz31 => (intro wz hSw; (try dsimp only at hSw); go_simp <;> with_reducible rfl)
  try simp only [Act.put, List.getElem_toArray, List.getElem_cons_zero, List.getElem_cons_succ, List.setIfInBounds_toArray, List.set_cons_zero, List.set_cons_succ]
  refine wpAnyH_take (i := 32) (v := undef) rfl (by as_aux_lemma => kernel_rfl) (by as_aux_lemma => kernel_rfl) (by as_aux_lemma => kernel_rfl) (fun _ _ _ h => h) (Or.inr ⟨by rfl, rfl⟩) (by assumption) ?_
  try simp only [Act.put, List.getElem_toArray, List.getElem_cons_zero, List.getElem_cons_succ, List.setIfInBounds_toArray, List.set_cons_zero, List.set_cons_succ]
  refine wpAnyH_take (i := 33) (v := undef) rfl (by as_aux_lemma => kernel_rfl) (by as_aux_lemma => kernel_rfl) (by as_aux_lemma => kernel_rfl) (fun _ _ _ h => h) (Or.inr ⟨by rfl, rfl⟩) (by assumption) ?_
  try simp only [Act.put, List.getElem_toArray, List.getElem_cons_zero, List.getElem_cons_succ, List.setIfInBounds_toArray, List.set_cons_zero, List.set_cons_succ]
  refine wpAnyH_take (i := 34) (v := ?_) rfl (by as_aux_lemma => kernel_rfl) (by as_aux_lemma => kernel_rfl) (by as_aux_lemma => kernel_rfl) (fun _ _ _ h => h) (Or.inl ⟨by as_aux_lemma => rfl, ?yz34⟩) (by assumption) ?qz34
  case yz34 => (intro wz hSw; (try dsimp only at hSw); go_simp <;> with_reducible rfl)
  try simp only [Act.put, List.getElem_toArray, List.getElem_cons_zero, List.getElem_cons_succ, List.setIfInBounds_toArray, List.set_cons_zero, List.set_cons_succ]
  refine wpAnyH_take (i := 35) (v := ?_) rfl (by as_aux_lemma => kernel_rfl) (by as_aux_lemma => kernel_rfl) (by as_aux_lemma => kernel_rfl) (fun _ _ _ h => h) (Or.inl ⟨by as_aux_lemma => rfl, ?yz35⟩) (by assumption) ?qz35
  case yz35 => (intro wz hSw; (try dsimp only at hSw); go_simp <;> with_reducible rfl)
  try simp only [Act.put, List.getElem_toArray, List.getElem_cons_zero, List.getElem_cons_succ, List.setIfInBounds_toArray, List.set_cons_zero, List.set_cons_succ]
  refine wpAnyH_take (i := 36) (v := ?_) rfl (by as_aux_lemma => kernel_rfl) (by as_aux_lemma => kernel_rfl) (by as_aux_lemma => kernel_rfl) (fun _ _ _ h => h) (Or.inl ⟨by as_aux_lemma => rfl, ?yz36⟩) (by assumption) ?qz36
  case yz36 => (intro wz hSw; (try dsimp only at hSw); go_simp <;> with_reducible rfl)
  try simp only [Act.put, List.getElem_toArray, List.getElem_cons_zero, List.getElem_cons_succ, List.setIfInBounds_toArray, List.set_cons_zero, List.set_cons_succ]
  refine wpAnyH_take (i := 37) (v := ?_) rfl (by as_aux_lemma => kernel_rfl) (by as_aux_lemma => kernel_rfl) (by as_aux_lemma => kernel_rfl) (fun _ _ _ h => h) (Or.inl ⟨by as_aux_lemma => rfl, ?yz37⟩) (by assumption) ?qz37
  case yz37 => (intro wz hSw; (try dsimp only at hSw); go_simp <;> with_reducible rfl)
  try simp only [Act.put, List.getElem_toArray, List.getElem_cons_zero, List.getElem_cons_succ, List.setIfInBounds_toArray, List.set_cons_zero, List.set_cons_succ]
  refine wpAnyH_take (i := 38) (v := ?_) rfl (by as_aux_lemma => kernel_rfl) (by as_aux_lemma => kernel_rfl) (by as_aux_lemma => kernel_rfl) (fun _ _ _ h => h) (Or.inl ⟨by as_aux_lemma => rfl, ?yz38⟩) (by assumption) ?qz38
  case yz38 => (intro wz hSw; (try dsimp only at hSw); go_simp <;> with_reducible rfl)
  try simp only [Act.put, List.getElem_toArray, List.getElem_cons_zero, List.getElem_cons_succ, List.setIfInBounds_toArray, List.set_cons_zero, List.set_cons_succ]
  refine wpAnyH_take (i := 39) (v := ?_) rfl (by as_aux_lemma => kernel_rfl) (by as_aux_lemma => kernel_rfl) (by as_aux_lemma => kernel_rfl) (fun _ _ _ h => h) (Or.inl ⟨by as_aux_lemma => rfl, ?yz39⟩) (by assumption) ?qz39
  case yz39 => (intro wz hSw; (try dsimp only at hSw); go_simp <;> with_reducible rfl)
  try simp only [Act.put, List.getElem_toArray, List.getElem_cons_zero, List.getElem_cons_succ, List.setIfInBounds_toArray, List.set_cons_zero, List.set_cons_succ]
  refine wpAnyH_take (i := 40) (v := ?_) rfl (by as_aux_lemma => kernel_rfl) (by as_aux_lemma => kernel_rfl) (by as_aux_lemma => kernel_rfl) (fun _ _ _ h => h) (Or.inl ⟨by as_aux_lemma => rfl, ?yz40⟩) (by assumption) ?qz40
  case yz40 => (intro wz hSw; (try dsimp only at hSw); go_simp <;> with_reducible rfl)
  try simp only [Act.put, List.getElem_toArray, List.getElem_cons_zero, List.getElem_cons_succ, List.setIfInBounds_toArray, List.set_cons_zero, List.set_cons_succ]
  refine wpAnyH_take (i := 41) (v := ?_) rfl (by as_aux_lemma => kernel_rfl) (by as_aux_lemma => kernel_rfl) (by as_aux_lemma => kernel_rfl) (fun _ _ _ h => h) (Or.inl ⟨by as_aux_lemma => rfl, ?yz41⟩) (by assumption) ?qz41
  case yz41 => (intro wz hSw; (try dsimp only at hSw); go_simp <;> with_reducible rfl)
  try simp only [Act.put, List.getElem_toArray, List.getElem_cons_zero, List.getElem_cons_succ, List.setIfInBounds_toArray, List.set_cons_zero, List.set_cons_succ]
  refine wpAnyH_take (i := 42) (v := ?_) rfl (by as_aux_lemma => kernel_rfl) (by as_aux_lemma => kernel_rfl) (by as_aux_lemma => kernel_rfl) (fun _ _ _ h => h) (Or.inl ⟨by as_aux_lemma => rfl, ?yz42⟩) (by assumption) ?qz42
  case yz42 => (intro wz hSw; (try dsimp only at hSw); go_simp <;> with_reducible rfl)
  try simp only [Act.put, List.getElem_toArray, List.getElem_cons_zero, List.getElem_cons_succ, List.setIfInBounds_toArray, List.set_cons_zero, List.set_cons_succ]
  refine wpAnyH_take (i := 43) (v := ?_) rfl (by as_aux_lemma => kernel_rfl) (by as_aux_lemma => kernel_rfl) (by as_aux_lemma => kernel_rfl) (fun _ _ _ h => h) (Or.inl ⟨by as_aux_lemma => rfl, ?yz43⟩) (by assumption) ?qz43
  case yz43 => (intro wz hSw; (try dsimp only at hSw); go_simp <;> with_reducible rfl)
  try simp only [Act.put, List.getElem_toArray, List.getElem_cons_zero, List.getElem_cons_succ, List.setIfInBounds_toArray, List.set_cons_zero, List.set_cons_succ]
  refine wpAnyH_take (i := 44) (v := ?_) rfl (by as_aux_lemma => kernel_rfl) (by as_aux_lemma => kernel_rfl) (by as_aux_lemma => kernel_rfl) (fun _ _ _ h => h) (Or.inl ⟨by as_aux_lemma => rfl, ?yz44⟩) (by assumption) ?qz44
  case yz44 => (intro wz hSw; (try dsimp only at hSw); go_simp <;> with_reducible rfl)
  try simp only [Act.put, List.getElem_toArray, List.getElem_cons_zero, List.getElem_cons_succ, List.setIfInBounds_toArray, List.set_cons_zero, List.set_cons_succ]
  refine wpAnyH_take (i := 45) (v := ?_) rfl (by as_aux_lemma => kernel_rfl) (by as_aux_lemma => kernel_rfl) (by as_aux_lemma => kernel_rfl) (fun _ _ _ h => h) (Or.inl ⟨by as_aux_lemma => rfl, ?yz45⟩) (by assumption) ?qz45
  case yz45 => (intro wz hSw; (try dsimp only at hSw); go_simp <;> with_reducible rfl)
  try simp only [Act.put, List.getElem_toArray, List.getElem_cons_zero, List.getElem_cons_succ, List.setIfInBounds_toArray, List.set_cons_zero, List.set_cons_succ]
  refine wpAnyH_take (i := 46) (v := ?_) rfl (by as_aux_lemma => kernel_rfl) (by as_aux_lemma => kernel_rfl) (by as_aux_lemma => kernel_rfl) (fun _ _ _ h => h) (Or.inl ⟨by as_aux_lemma => rfl, ?yz46⟩) (by assumption) ?qz46
  case yz46 => (intro wz hSw; (try dsimp only at hSw); go_simp <;> with_reducible rfl)
  try simp only [Act.put, List.getElem_toArray, List.getElem_cons_zero, List.getElem_cons_succ, List.setIfInBounds_toArray, List.set_cons_zero, List.set_cons_succ]
  refine wpAnyH_take (i := 47) (v := ?_) rfl (by as_aux_lemma => kernel_rfl) (by as_aux_lemma => kernel_rfl) (by as_aux_lemma => kernel_rfl) (fun _ _ _ h => h) (Or.inl ⟨by as_aux_lemma => rfl, ?yz47⟩) (by assumption) ?qz47
  case yz47 => (intro wz hSw; (try dsimp only at hSw); go_simp <;> with_reducible rfl)
  try simp only [Act.put, List.getElem_toArray, List.getElem_cons_zero, List.getElem_cons_succ, List.setIfInBounds_toArray, List.set_cons_zero, List.set_cons_succ]
  refine wpAnyH_take (i := 48) (v := ?_) rfl (by as_aux_lemma => kernel_rfl) (by as_aux_lemma => kernel_rfl) (by as_aux_lemma => kernel_rfl) (fun _ _ _ h => h) (Or.inl ⟨by as_aux_lemma => rfl, ?yz48⟩) (by assumption) ?qz48
  case yz48 => (intro wz hSw; (try dsimp only at hSw); go_simp <;> with_reducible rfl)
  try simp only [Act.put, List.getElem_toArray, List.getElem_cons_zero, List.getElem_cons_succ, List.setIfInBounds_toArray, List.set_cons_zero, List.set_cons_succ]
  refine join3 (fun (x : Value) (p : Option Addr) (u : World) => Lst.Ints 0 u x [8, 7] ∧ Lst.Ints 0 u (.slice p 2 2) [8, 7] ∧ Below wd.heap.size wd u) ?Gz49 (fun HJ => ?fz49) ?rz49
  case fz49 =>
    refine wpAnyH_ready (rs := [49, 50]) (by as_aux_lemma => kernel_rfl) (by simp) ?_
    refine AllReadyH.cons rfl (fun K hK => ?bz49) ?cz49
    case bz49 =>
      go_simp
      refine (pslist (HZ.out _ B6.out).2.1.1.1 (t := T2) (root := rt5) H4.out.1 (by rw [T2_f.1]; decide)).mono ?_
      rintro e u7 ⟨x49, rfl, hown, hb⟩
      have hx := hown.ints (by rw [T2_f.2.2]; decide)
      rw [T2_f.2.2] at hx
      have F49 : Hid (Lst.Ints 0 u7 x49 [8, 7]) := Lib.hid hx
      have hb49 := Lib.hid hb
      have B7 := Lib.hid (Below.trans (show Below wd.heap.size wd _ from B6.out) (hb.mono (show wd.heap.size ≤ _ from Below.size B6.out)))
      clear hb hown hx
      refine hK.out _ _ (HZ.out _ B7.out).1 (fun hHeld7 => ?_)
      clear hK K
      try simp only [Act.put, List.getElem_toArray, List.getElem_cons_zero, List.getElem_cons_succ, List.setIfInBounds_toArray, List.set_cons_zero, List.set_cons_succ]
      refine wpAnyH_ready (rs := [50]) (by as_aux_lemma => kernel_rfl) (by simp) ?_
      refine AllReadyH.cons rfl (fun K hK => ?_) AllReadyH.nil
      go_simp
      obtain ⟨p8, hp8⟩ : ∃ p : Option Addr, p = some ⟨u7.heap.size, 0, none⟩ := ⟨_, rfl⟩
      obtain ⟨u8, hu8⟩ : ∃ U, U = u7.alloc (.cells #[.int .i64 8, .int .i64 7] 3) := ⟨_, rfl⟩
      have F50 : Hid (Lst.Ints 0 u8 (.slice p8 2 2) [8, 7]) := Lib.hid (by rw [hp8, hu8]; exact ints_two (heap_alloc_at _ _ _ rfl))
      have hb : Below u7.heap.size u7 u8 := by rw [hu8]; exact (Below.refl _ _).alloc (Nat.le_refl _) _
      have hb50 := Lib.hid hb
      rw [← hp8, ← hu8]
      clear hp8 hu8
      have B8 := Lib.hid (Below.trans (show Below wd.heap.size wd _ from B7.out) (hb.mono (show wd.heap.size ≤ _ from Below.size B7.out)))
      clear hb
      refine hK.out _ _ (HZ.out _ B8.out).1 (fun hHeld8 => ?_)
      clear hK K
      try simp only [Act.put, List.getElem_toArray, List.getElem_cons_zero, List.getElem_cons_succ, List.setIfInBounds_toArray, List.set_cons_zero, List.set_cons_succ]
      exact HJ _ _ _ ⟨F49.out.below hb50.out, F50.out, B8.out⟩
    refine AllReadyH.cons rfl (fun K hK => ?bz50) ?cz50
    case bz50 =>
      go_simp
      obtain ⟨p9, hp9⟩ : ∃ p : Option Addr, p = some ⟨u6.heap.size, 0, none⟩ := ⟨_, rfl⟩
      obtain ⟨u9, hu9⟩ : ∃ U, U = u6.alloc (.cells #[.int .i64 8, .int .i64 7] 3) := ⟨_, rfl⟩
      have F50 : Hid (Lst.Ints 0 u9 (.slice p9 2 2) [8, 7]) := Lib.hid (by rw [hp9, hu9]; exact ints_two (heap_alloc_at _ _ _ rfl))
      have hb : Below u6.heap.size u6 u9 := by rw [hu9]; exact (Below.refl _ _).alloc (Nat.le_refl _) _
      have hb50 := Lib.hid hb
      rw [← hp9, ← hu9]
      clear hp9 hu9
      have B9 := Lib.hid (Below.trans (show Below wd.heap.size wd _ from B6.out) (hb.mono (show wd.heap.size ≤ _ from Below.size B6.out)))
      clear hb
      refine hK.out _ _ (HZ.out _ B9.out).1 (fun hHeld9 => ?_)
      clear hK K
      try simp only [Act.put, List.getElem_toArray, List.getElem_cons_zero, List.getElem_cons_succ, List.setIfInBounds_toArray, List.set_cons_zero, List.set_cons_succ]
      refine wpAnyH_ready (rs := [49]) (by as_aux_lemma => kernel_rfl) (by simp) ?_
      refine AllReadyH.cons rfl (fun K hK => ?_) AllReadyH.nil
      go_simp
      refine (pslist (HZ.out _ B9.out).2.1.1.1 (t := T2) (root := rt5) H4.out.1 (by rw [T2_f.1]; decide)).mono ?_
      rintro e u10 ⟨x49, rfl, hown, hb⟩
      have hx := hown.ints (by rw [T2_f.2.2]; decide)
      rw [T2_f.2.2] at hx
      have F49 : Hid (Lst.Ints 0 u10 x49 [8, 7]) := Lib.hid hx
      have hb49 := Lib.hid hb
      have B10 := Lib.hid (Below.trans (show Below wd.heap.size wd _ from B9.out) (hb.mono (show wd.heap.size ≤ _ from Below.size B9.out)))
      clear hb hown hx
      refine hK.out _ _ (HZ.out _ B10.out).1 (fun hHeld10 => ?_)
      clear hK K
      try simp only [Act.put, List.getElem_toArray, List.getElem_cons_zero, List.getElem_cons_succ, List.setIfInBounds_toArray, List.set_cons_zero, List.set_cons_succ]
      rw [Array.setIfInBounds_comm _ _ (show 50 ≠ 49 by decide)]
      exact HJ _ _ _ ⟨F49.out, F50.out.below hb49.out, B10.out⟩
    exact AllReadyH.nil
  rintro x11 p11 u11 ⟨h1, h2, h3⟩
  have F49 := Lib.hid h1
  have F50 := Lib.hid h2
  have B11 := Lib.hid h3
  have hHeld11 := (HZ.out _ h3).1
  clear h1 h2 h3
  refine wpAnyH_ready (rs := [51]) (by as_aux_lemma => kernel_rfl) (by simp) ?_
  refine AllReadyH.cons rfl (fun K hK => ?_) AllReadyH.nil
  go_simp
  refine (sameI_yes F49.out F50.out).mono ?_
  rintro e u12 ⟨rfl, hb⟩
  have B12 := Lib.hid (Below.trans (show Below wd.heap.size wd _ from B11.out) (hb.mono (show wd.heap.size ≤ _ from Below.size B11.out)))
  clear hb
  refine hK.out _ _ (HZ.out _ B12.out).1 (fun hHeld12 => ?_)
  clear hK K
  try simp only [Act.put, List.getElem_toArray, List.getElem_cons_zero, List.getElem_cons_succ, List.setIfInBounds_toArray, List.set_cons_zero, List.set_cons_succ]
  refine wpAnyH_take (i := 52) (v := ?_) rfl (by as_aux_lemma => kernel_rfl) (by as_aux_lemma => kernel_rfl) (by as_aux_lemma => kernel_rfl) (fun _ _ _ h => h) (Or.inl ⟨by as_aux_lemma => rfl, ?yz52⟩) (by assumption) ?qz52
  case yz52 => (intro wz hSw; (try dsimp only at hSw); go_simp <;> with_reducible rfl)
  try simp only [Act.put, List.getElem_toArray, List.getElem_cons_zero, List.getElem_cons_succ, List.setIfInBounds_toArray, List.set_cons_zero, List.set_cons_succ]
  refine wpAnyH_take (i := 53) (v := ?_) rfl (by as_aux_lemma => kernel_rfl) (by as_aux_lemma => kernel_rfl) (by as_aux_lemma => kernel_rfl) (fun _ _ _ h => h) (Or.inl ⟨by as_aux_lemma => rfl, ?yz53⟩) (by assumption) ?qz53
  case yz53 => (intro wz hSw; (try dsimp only at hSw); go_simp <;> with_reducible rfl)
  try simp only [Act.put, List.getElem_toArray, List.getElem_cons_zero, List.getElem_cons_succ, List.setIfInBounds_toArray, List.set_cons_zero, List.set_cons_succ]
  refine wpAnyH_take (i := 54) (v := ?_) rfl (by as_aux_lemma => kernel_rfl) (by as_aux_lemma => kernel_rfl) (by as_aux_lemma => kernel_rfl) (fun _ _ _ h => h) (Or.inl ⟨by as_aux_lemma => rfl, ?yz54⟩) (by assumption) ?qz54
  case yz54 => (intro wz hSw; (try dsimp only at hSw); go_simp <;> with_reducible rfl)
  try simp only [Act.put, List.getElem_toArray, List.getElem_cons_zero, List.getElem_cons_succ, List.setIfInBounds_toArray, List.set_cons_zero, List.set_cons_succ]
  refine wpAnyH_ready (rs := [55]) (by as_aux_lemma => kernel_rfl) (by simp) ?_
  refine AllReadyH.cons rfl (fun K hK => ?_) AllReadyH.nil
  go_simp
  refine (psindex 7 (HZ.out _ B12.out).2.1.1.1 (t := T2) (root := rt5) H4.out.1 (by rw [T2_f.1]; decide)).mono ?_
  rintro e u13 ⟨he, hb⟩
  rw [LI7] at he
  subst he
  have B13 := Lib.hid (Below.trans (show Below wd.heap.size wd _ from B12.out) (hb.mono (show wd.heap.size ≤ _ from Below.size B12.out)))
  clear hb
  refine hK.out _ _ (HZ.out _ B13.out).1 (fun hHeld13 => ?_)
  clear hK K
  try simp only [Act.put, List.getElem_toArray, List.getElem_cons_zero, List.getElem_cons_succ, List.setIfInBounds_toArray, List.set_cons_zero, List.set_cons_succ]
  refine wpAnyH_take (i := 56) (v := ?_) rfl (by as_aux_lemma => kernel_rfl) (by as_aux_lemma => kernel_rfl) (by as_aux_lemma => kernel_rfl) (fun _ _ _ h => h) (Or.inl ⟨by as_aux_lemma => rfl, ?yz56⟩) (by assumption) ?qz56
  case yz56 => (intro wz hSw; (try dsimp only at hSw); go_simp <;> with_reducible rfl)
  try simp only [Act.put, List.getElem_toArray, List.getElem_cons_zero, List.getElem_cons_succ, List.setIfInBounds_toArray, List.set_cons_zero, List.set_cons_succ]
  refine wpAnyH_take (i := 57) (v := ?_) rfl (by as_aux_lemma => kernel_rfl) (by as_aux_lemma => kernel_rfl) (by as_aux_lemma => kernel_rfl) (fun _ _ _ h => h) (Or.inl ⟨by as_aux_lemma => rfl, ?yz57⟩) (by assumption) ?qz57
  case yz57 => (intro wz hSw; (try dsimp only at hSw); go_simp <;> with_reducible rfl)
  try simp only [Act.put, List.getElem_toArray, List.getElem_cons_zero, List.getElem_cons_succ, List.setIfInBounds_toArray, List.set_cons_zero, List.set_cons_succ]
  refine wpAnyH_take (i := 58) (v := ?_) rfl (by as_aux_lemma => kernel_rfl) (by as_aux_lemma => kernel_rfl) (by as_aux_lemma => kernel_rfl) (fun _ _ _ h => h) (Or.inl ⟨by as_aux_lemma => rfl, ?yz58⟩) (by assumption) ?qz58
  case yz58 => (intro wz hSw; (try dsimp only at hSw); go_simp <;> with_reducible rfl)
  try simp only [Act.put, List.getElem_toArray, List.getElem_cons_zero, List.getElem_cons_succ, List.setIfInBounds_toArray, List.set_cons_zero, List.set_cons_succ]
  refine wpAnyH_take (i := 59) (v := ?_) rfl (by as_aux_lemma => kernel_rfl) (by as_aux_lemma => kernel_rfl) (by as_aux_lemma => kernel_rfl) (fun _ _ _ h => h) (Or.inl ⟨by as_aux_lemma => rfl, ?yz59⟩) (by assumption) ?qz59
  case yz59 => (intro wz hSw; (try dsimp only at hSw); go_simp <;> with_reducible rfl)
  try simp only [Act.put, List.getElem_toArray, List.getElem_cons_zero, List.getElem_cons_succ, List.setIfInBounds_toArray, List.set_cons_zero, List.set_cons_succ]
  refine wpAnyH_ready (rs := [60]) (by as_aux_lemma => kernel_rfl) (by simp) ?_
  refine AllReadyH.cons rfl (fun K hK => ?_) AllReadyH.nil
  go_simp
  refine (psindex 5 (HZ.out _ B13.out).2.1.1.1 (t := T2) (root := rt5) H4.out.1 (by rw [T2_f.1]; decide)).mono ?_
  rintro e u14 ⟨he, hb⟩
  rw [LI5] at he
  subst he
  have B14 := Lib.hid (Below.trans (show Below wd.heap.size wd _ from B13.out) (hb.mono (show wd.heap.size ≤ _ from Below.size B13.out)))
  clear hb
  refine hK.out _ _ (HZ.out _ B14.out).1 (fun hHeld14 => ?_)
  clear hK K
  try simp only [Act.put, List.getElem_toArray, List.getElem_cons_zero, List.getElem_cons_succ, List.setIfInBounds_toArray, List.set_cons_zero, List.set_cons_succ]
  refine wpAnyH_take (i := 61) (v := ?_) rfl (by as_aux_lemma => kernel_rfl) (by as_aux_lemma => kernel_rfl) (by as_aux_lemma => kernel_rfl) (fun _ _ _ h => h) (Or.inl ⟨by as_aux_lemma => rfl, ?yz61⟩) (by assumption) ?qz61
  case yz61 => (intro wz hSw; (try dsimp only at hSw); go_simp <;> with_reducible rfl)
  try simp only [Act.put, List.getElem_toArray, List.getElem_cons_zero, List.getElem_cons_succ, List.setIfInBounds_toArray, List.set_cons_zero, List.set_cons_succ]
  refine wpAnyH_take (i := 62) (v := ?_) rfl (by as_aux_lemma => kernel_rfl) (by as_aux_lemma => kernel_rfl) (by as_aux_lemma => kernel_rfl) (fun _ _ _ h => h) (Or.inl ⟨by as_aux_lemma => rfl, ?yz62⟩) (by assumption) ?qz62
  case yz62 => (intro wz hSw; (try dsimp only at hSw); go_simp <;> with_reducible rfl)
  try simp only [Act.put, List.getElem_toArray, List.getElem_cons_zero, List.getElem_cons_succ, List.setIfInBounds_toArray, List.set_cons_zero, List.set_cons_succ]
  refine wpAnyH_take (i := 63) (v := ?_) rfl (by as_aux_lemma => kernel_rfl) (by as_aux_lemma => kernel_rfl) (by as_aux_lemma => kernel_rfl) (fun _ _ _ h => h) (Or.inl ⟨by as_aux_lemma => rfl, ?yz63⟩) (by assumption) ?qz63
  case yz63 => (intro wz hSw; (try dsimp only at hSw); go_simp <;> with_reducible rfl)
  try simp only [Act.put, List.getElem_toArray, List.getElem_cons_zero, List.getElem_cons_succ, List.setIfInBounds_toArray, List.set_cons_zero, List.set_cons_succ]
  refine wpAnyH_take (i := 64) (v := ?_) rfl (by as_aux_lemma => kernel_rfl) (by as_aux_lemma => kernel_rfl) (by as_aux_lemma => kernel_rfl) (fun _ _ _ h => h) (Or.inl ⟨by as_aux_lemma => rfl, ?yz64⟩) (by assumption) ?qz64
  case yz64 => (intro wz hSw; (try dsimp only at hSw); go_simp <;> with_reducible rfl)
  try simp only [Act.put, List.getElem_toArray, List.getElem_cons_zero, List.getElem_cons_succ, List.setIfInBounds_toArray, List.set_cons_zero, List.set_cons_succ]
  refine wpAnyH_ready (rs := [65]) (by as_aux_lemma => kernel_rfl) (by simp) ?_
  refine AllReadyH.cons rfl (fun K hK => ?_) AllReadyH.nil
  go_simp
  refine (pslen (HZ.out _ B14.out).2.1.1.1 (t := T2) (root := rt5) H4.out.1).mono ?_
  rintro e u15 ⟨he, hb⟩
  rw [LS2] at he
  subst he
  have B15 := Lib.hid (Below.trans (show Below wd.heap.size wd _ from B14.out) (hb.mono (show wd.heap.size ≤ _ from Below.size B14.out)))
  clear hb
  refine hK.out _ _ (HZ.out _ B15.out).1 (fun hHeld15 => ?_)
  clear hK K
  try simp only [Act.put, List.getElem_toArray, List.getElem_cons_zero, List.getElem_cons_succ, List.setIfInBounds_toArray, List.set_cons_zero, List.set_cons_succ]
  refine wpAnyH_take (i := 66) (v := ?_) rfl (by as_aux_lemma => kernel_rfl) (by as_aux_lemma => kernel_rfl) (by as_aux_lemma => kernel_rfl) (fun _ _ _ h => h) (Or.inl ⟨by as_aux_lemma => rfl, ?yz66⟩) (by assumption) ?qz66
  case yz66 => (intro wz hSw; (try dsimp only at hSw); go_simp <;> with_reducible rfl)
  try simp only [Act.put, List.getElem_toArray, List.getElem_cons_zero, List.getElem_cons_succ, List.setIfInBounds_toArray, List.set_cons_zero, List.set_cons_succ]
  refine wpAnyH_take (i := 67) (v := ?_) rfl (by as_aux_lemma => kernel_rfl) (by as_aux_lemma => kernel_rfl) (by as_aux_lemma => kernel_rfl) (fun _ _ _ h => h) (Or.inl ⟨by as_aux_lemma => rfl, ?yz67⟩) (by assumption) ?qz67
  case yz67 => (intro wz hSw; (try dsimp only at hSw); go_simp <;> with_reducible rfl)
  try simp only [Act.put, List.getElem_toArray, List.getElem_cons_zero, List.getElem_cons_succ, List.setIfInBounds_toArray, List.set_cons_zero, List.set_cons_succ]
  refine wpAnyH_take (i := 68) (v := ?_) rfl (by as_aux_lemma => kernel_rfl) (by as_aux_lemma => kernel_rfl) (by as_aux_lemma => kernel_rfl) (fun _ _ _ h => h) (Or.inl ⟨by as_aux_lemma => rfl, ?yz68⟩) (by assumption) ?qz68
  case yz68 => (intro wz hSw; (try dsimp only at hSw); go_simp <;> with_reducible rfl)
  try simp only [Act.put, List.getElem_toArray, List.getElem_cons_zero, List.getElem_cons_succ, List.setIfInBounds_toArray, List.set_cons_zero, List.set_cons_succ]
  refine wpAnyH_take (i := 69) (v := ?_) rfl (by as_aux_lemma => kernel_rfl) (by as_aux_lemma => kernel_rfl) (by as_aux_lemma => kernel_rfl) (fun _ _ _ h => h) (Or.inl ⟨by as_aux_lemma => rfl, ?yz69⟩) (by assumption) ?qz69
  case yz69 => (intro wz hSw; (try dsimp only at hSw); go_simp <;> with_reducible rfl)
  try simp only [Act.put, List.getElem_toArray, List.getElem_cons_zero, List.getElem_cons_succ, List.setIfInBounds_toArray, List.set_cons_zero, List.set_cons_succ]
  refine wpAnyH_ready (rs := [70]) (by as_aux_lemma => kernel_rfl) (by simp) ?_
  refine AllReadyH.cons rfl (fun K hK => ?_) AllReadyH.nil
  go_simp
  refine (pslen (HZ.out _ B15.out).2.1.1.1 (t := .nil) (root := 0) rfl).mono ?_
  rintro e u16 ⟨he, hb⟩
  rw [LS0] at he
  subst he
  have B16 := Lib.hid (Below.trans (show Below wd.heap.size wd _ from B15.out) (hb.mono (show wd.heap.size ≤ _ from Below.size B15.out)))
  clear hb
  refine hK.out _ _ (HZ.out _ B16.out).1 (fun hHeld16 => ?_)
  clear hK K
  try simp only [Act.put, List.getElem_toArray, List.getElem_cons_zero, List.getElem_cons_succ, List.setIfInBounds_toArray, List.set_cons_zero, List.set_cons_succ]
  refine wpAnyH_take (i := 71) (v := ?_) rfl (by as_aux_lemma => kernel_rfl) (by as_aux_lemma => kernel_rfl) (by as_aux_lemma => kernel_rfl) (fun _ _ _ h => h) (Or.inl ⟨by as_aux_lemma => rfl, ?yz71⟩) (by assumption) ?qz71
  case yz71 => (intro wz hSw; (try dsimp only at hSw); go_simp <;> with_reducible rfl)
  try simp only [Act.put, List.getElem_toArray, List.getElem_cons_zero, List.getElem_cons_succ, List.setIfInBounds_toArray, List.set_cons_zero, List.set_cons_succ]
  refine wpAnyH_take (i := 72) (v := ?_) rfl (by as_aux_lemma => kernel_rfl) (by as_aux_lemma => kernel_rfl) (by as_aux_lemma => kernel_rfl) (fun _ _ _ h => h) (Or.inl ⟨by as_aux_lemma => rfl, ?yz72⟩) (by assumption) ?qz72
  case yz72 => (intro wz hSw; (try dsimp only at hSw); go_simp <;> with_reducible rfl)
  try simp only [Act.put, List.getElem_toArray, List.getElem_cons_zero, List.getElem_cons_succ, List.setIfInBounds_toArray, List.set_cons_zero, List.set_cons_succ]
  refine wpAnyH_take (i := 73) (v := ?_) rfl (by as_aux_lemma => kernel_rfl) (by as_aux_lemma => kernel_rfl) (by as_aux_lemma => kernel_rfl) (fun _ _ _ h => h) (Or.inl ⟨by as_aux_lemma => rfl, ?yz73⟩) (by assumption) ?qz73
  case yz73 => (intro wz hSw; (try dsimp only at hSw); go_simp <;> with_reducible rfl)
  try simp only [Act.put, List.getElem_toArray, List.getElem_cons_zero, List.getElem_cons_succ, List.setIfInBounds_toArray, List.set_cons_zero, List.set_cons_succ]
  refine wpAnyH_take (i := 74) (v := ?_) rfl (by as_aux_lemma => kernel_rfl) (by as_aux_lemma => kernel_rfl) (by as_aux_lemma => kernel_rfl) (fun _ _ _ h => h) (Or.inl ⟨by as_aux_lemma => rfl, ?yz74⟩) (by assumption) ?qz74
  case yz74 => (intro wz hSw; (try dsimp only at hSw); go_simp <;> with_reducible rfl)
  try simp only [Act.put, List.getElem_toArray, List.getElem_cons_zero, List.getElem_cons_succ, List.setIfInBounds_toArray, List.set_cons_zero, List.set_cons_succ]
  refine wpAnyH_ready (rs := [75]) (by as_aux_lemma => kernel_rfl) (by simp) ?_
  refine AllReadyH.cons rfl (fun K hK => ?_) AllReadyH.nil
  go_simp
  refine (pshigh (HZ.out _ B16.out).2.1.1.1 (t := .nil) (root := 0) rfl).mono ?_
  rintro e u17 ⟨he, hb⟩
  rw [LH0] at he
  subst he
  have B17 := Lib.hid (Below.trans (show Below wd.heap.size wd _ from B16.out) (hb.mono (show wd.heap.size ≤ _ from Below.size B16.out)))
  clear hb
  refine hK.out _ _ (HZ.out _ B17.out).1 (fun hHeld17 => ?_)
  clear hK K
  try simp only [Act.put, List.getElem_toArray, List.getElem_cons_zero, List.getElem_cons_succ, List.setIfInBounds_toArray, List.set_cons_zero, List.set_cons_succ]
  refine wpAnyH_take (i := 76) (v := ?_) rfl (by as_aux_lemma => kernel_rfl) (by as_aux_lemma => kernel_rfl) (by as_aux_lemma => kernel_rfl) (fun _ _ _ h => h) (Or.inl ⟨by as_aux_lemma => rfl, ?yz76⟩) (by assumption) ?qz76
  case yz76 => (intro wz hSw; (try dsimp only at hSw); go_simp <;> with_reducible rfl)
  try simp only [Act.put, List.getElem_toArray, List.getElem_cons_zero, List.getElem_cons_succ, List.setIfInBounds_toArray, List.set_cons_zero, List.set_cons_succ]
  refine wpAnyH_take (i := 77) (v := ?_) rfl (by as_aux_lemma => kernel_rfl) (by as_aux_lemma => kernel_rfl) (by as_aux_lemma => kernel_rfl) (fun _ _ _ h => h) (Or.inl ⟨by as_aux_lemma => rfl, ?yz77⟩) (by assumption) ?qz77
  case yz77 => (intro wz hSw; (try dsimp only at hSw); go_simp <;> with_reducible rfl)
  try simp only [Act.put, List.getElem_toArray, List.getElem_cons_zero, List.getElem_cons_succ, List.setIfInBounds_toArray, List.set_cons_zero, List.set_cons_succ]
  refine wpAnyH_take (i := 78) (v := ?_) rfl (by as_aux_lemma => kernel_rfl) (by as_aux_lemma => kernel_rfl) (by as_aux_lemma => kernel_rfl) (fun _ _ _ h => h) (Or.inl ⟨by as_aux_lemma => rfl, ?yz78⟩) (by assumption) ?qz78
  case yz78 => (intro wz hSw; (try dsimp only at hSw); go_simp <;> with_reducible rfl)
  try simp only [Act.put, List.getElem_toArray, List.getElem_cons_zero, List.getElem_cons_succ, List.setIfInBounds_toArray, List.set_cons_zero, List.set_cons_succ]
  refine wpAnyH_take (i := 79) (v := ?_) rfl (by as_aux_lemma => kernel_rfl) (by as_aux_lemma => kernel_rfl) (by as_aux_lemma => kernel_rfl) (fun _ _ _ h => h) (Or.inl ⟨by as_aux_lemma => rfl, ?yz79⟩) (by assumption) ?qz79
  case yz79 => (intro wz hSw; (try dsimp only at hSw); go_simp <;> with_reducible rfl)
  try simp only [Act.put, List.getElem_toArray, List.getElem_cons_zero, List.getElem_cons_succ, List.setIfInBounds_toArray, List.set_cons_zero, List.set_cons_succ]
  refine wpAnyH_take (i := 80) (v := ?_) rfl (by as_aux_lemma => kernel_rfl) (by as_aux_lemma => kernel_rfl) (by as_aux_lemma => kernel_rfl) (fun _ _ _ h => h) (Or.inl ⟨by as_aux_lemma => rfl, ?yz80⟩) (by assumption) ?qz80
  case yz80 => (intro wz hSw; (try dsimp only at hSw); go_simp <;> with_reducible rfl)
  try simp only [Act.put, List.getElem_toArray, List.getElem_cons_zero, List.getElem_cons_succ, List.setIfInBounds_toArray, List.set_cons_zero, List.set_cons_succ]
  refine wpAnyH_take (i := 81) (v := ?_) rfl (by as_aux_lemma => kernel_rfl) (by as_aux_lemma => kernel_rfl) (by as_aux_lemma => kernel_rfl) (fun _ _ _ h => h) (Or.inl ⟨by as_aux_lemma => rfl, ?yz81⟩) (by assumption) ?qz81
  case yz81 => (intro wz hSw; (try dsimp only at hSw); go_simp <;> with_reducible rfl)
  try simp only [Act.put, List.getElem_toArray, List.getElem_cons_zero, List.getElem_cons_succ, List.setIfInBounds_toArray, List.set_cons_zero, List.set_cons_succ]
  refine wpAnyH_take (i := 82) (v := ?_) rfl (by as_aux_lemma => kernel_rfl) (by as_aux_lemma => kernel_rfl) (by as_aux_lemma => kernel_rfl) (fun _ _ _ h => h) (Or.inl ⟨by as_aux_lemma => rfl, ?yz82⟩) (by assumption) ?qz82
  case yz82 => (intro wz hSw; (try dsimp only at hSw); go_simp <;> with_reducible rfl)
  try simp only [Act.put, List.getElem_toArray, List.getElem_cons_zero, List.getElem_cons_succ, List.setIfInBounds_toArray, List.set_cons_zero, List.set_cons_succ]
  refine wpAnyH_take (i := 83) (v := ?_) rfl (by as_aux_lemma => kernel_rfl) (by as_aux_lemma => kernel_rfl) (by as_aux_lemma => kernel_rfl) (fun _ _ _ h => h) (Or.inl ⟨by as_aux_lemma => rfl, ?yz83⟩) (by assumption) ?qz83
  case yz83 => (intro wz hSw; (try dsimp only at hSw); go_simp <;> with_reducible rfl)
  try simp only [Act.put, List.getElem_toArray, List.getElem_cons_zero, List.getElem_cons_succ, List.setIfInBounds_toArray, List.set_cons_zero, List.set_cons_succ]
  refine wpAnyH_take (i := 85) (v := ?_) rfl (by as_aux_lemma => kernel_rfl) (by as_aux_lemma => kernel_rfl) (by as_aux_lemma => kernel_rfl) (fun _ _ _ h => h) (Or.inl ⟨by as_aux_lemma => rfl, ?yz85⟩) (by assumption) ?qz85
  case yz85 => (intro wz hSw; (try dsimp only at hSw); go_simp <;> with_reducible rfl)
  try simp only [Act.put, List.getElem_toArray, List.getElem_cons_zero, List.getElem_cons_succ, List.setIfInBounds_toArray, List.set_cons_zero, List.set_cons_succ]
  refine wpAnyH_ready (rs := [84]) (by as_aux_lemma => kernel_rfl) (by simp) ?_
  refine AllReadyH.cons rfl (fun K hK => ?_) AllReadyH.nil
  go_simp
  refine (pslist (HZ.out _ B17.out).2.2.1.1 (t := mkN T2.vals) (root := rtu) HTU.out (by rw [mk2_f.2]; decide)).mono ?_
  rintro e u18 ⟨x84, rfl, hown, hb⟩
  have hx := hown.ints (by rw [mk2_f.1]; decide)
  rw [mk2_f.1] at hx
  have F84 : Hid (Lst.Ints 0 u18 x84 [8, 7]) := Lib.hid hx
  have hb84 := Lib.hid hb
  have B18 := Lib.hid (Below.trans (show Below wd.heap.size wd _ from B17.out) (hb.mono (show wd.heap.size ≤ _ from Below.size B17.out)))
  clear hb hown hx
  refine hK.out _ _ (HZ.out _ B18.out).1 (fun hHeld18 => ?_)
  clear hK K
  try simp only [Act.put, List.getElem_toArray, List.getElem_cons_zero, List.getElem_cons_succ, List.setIfInBounds_toArray, List.set_cons_zero, List.set_cons_succ]
  refine wpAnyH_ready (rs := [86]) (by as_aux_lemma => kernel_rfl) (by simp) ?_
  refine AllReadyH.cons rfl (fun K hK => ?_) AllReadyH.nil
  go_simp
  refine (pslist (HZ.out _ B18.out).2.1.1.1 (t := T2) (root := rt5) H4.out.1 (by rw [T2_f.1]; decide)).mono ?_
  rintro e u19 ⟨x86, rfl, hown, hb⟩
  have hx := hown.ints (by rw [T2_f.2.2]; decide)
  rw [T2_f.2.2] at hx
  have F86 : Hid (Lst.Ints 0 u19 x86 [8, 7]) := Lib.hid hx
  have hb86 := Lib.hid hb
  have B19 := Lib.hid (Below.trans (show Below wd.heap.size wd _ from B18.out) (hb.mono (show wd.heap.size ≤ _ from Below.size B18.out)))
  clear hb hown hx
  refine hK.out _ _ (HZ.out _ B19.out).1 (fun hHeld19 => ?_)
  clear hK K
  try simp only [Act.put, List.getElem_toArray, List.getElem_cons_zero, List.getElem_cons_succ, List.setIfInBounds_toArray, List.set_cons_zero, List.set_cons_succ]
  refine wpAnyH_ready (rs := [87]) (by as_aux_lemma => kernel_rfl) (by simp) ?_
  refine AllReadyH.cons rfl (fun K hK => ?_) AllReadyH.nil
  go_simp
  refine (sameI_yes (F84.out.below hb86.out) F86.out).mono ?_
  rintro e u20 ⟨rfl, hb⟩
  have B20 := Lib.hid (Below.trans (show Below wd.heap.size wd _ from B19.out) (hb.mono (show wd.heap.size ≤ _ from Below.size B19.out)))
  clear hb
  refine hK.out _ _ (HZ.out _ B20.out).1 (fun hHeld20 => ?_)
  clear hK K
  try simp only [Act.put, List.getElem_toArray, List.getElem_cons_zero, List.getElem_cons_succ, List.setIfInBounds_toArray, List.set_cons_zero, List.set_cons_succ]
  refine wpAnyH_take (i := 88) (v := ?_) rfl (by as_aux_lemma => kernel_rfl) (by as_aux_lemma => kernel_rfl) (by as_aux_lemma => kernel_rfl) (fun _ _ _ h => h) (Or.inl ⟨by as_aux_lemma => rfl, ?yz88⟩) (by assumption) ?qz88
  case yz88 => (intro wz hSw; (try dsimp only at hSw); go_simp <;> with_reducible rfl)
  try simp only [Act.put, List.getElem_toArray, List.getElem_cons_zero, List.getElem_cons_succ, List.setIfInBounds_toArray, List.set_cons_zero, List.set_cons_succ]
  refine wpAnyH_take (i := 89) (v := ?_) rfl (by as_aux_lemma => kernel_rfl) (by as_aux_lemma => kernel_rfl) (by as_aux_lemma => kernel_rfl) (fun _ _ _ h => h) (Or.inl ⟨by as_aux_lemma => rfl, ?yz89⟩) (by assumption) ?qz89
  case yz89 => (intro wz hSw; (try dsimp only at hSw); go_simp <;> with_reducible rfl)
  try simp only [Act.put, List.getElem_toArray, List.getElem_cons_zero, List.getElem_cons_succ, List.setIfInBounds_toArray, List.set_cons_zero, List.set_cons_succ]
  refine wpAnyH_take (i := 90) (v := ?_) rfl (by as_aux_lemma => kernel_rfl) (by as_aux_lemma => kernel_rfl) (by as_aux_lemma => kernel_rfl) (fun _ _ _ h => h) (Or.inl ⟨by as_aux_lemma => rfl, ?yz90⟩) (by assumption) ?qz90
  case yz90 => (intro wz hSw; (try dsimp only at hSw); go_simp <;> with_reducible rfl)
  try simp only [Act.put, List.getElem_toArray, List.getElem_cons_zero, List.getElem_cons_succ, List.setIfInBounds_toArray, List.set_cons_zero, List.set_cons_succ]
  refine wpAnyH_take (i := 91) (v := ?_) rfl (by as_aux_lemma => kernel_rfl) (by as_aux_lemma => kernel_rfl) (by as_aux_lemma => kernel_rfl) (fun _ _ _ h => h) (Or.inl ⟨by as_aux_lemma => rfl, ?yz91⟩) (by assumption) ?qz91
  case yz91 => (intro wz hSw; (try dsimp only at hSw); go_simp <;> with_reducible rfl)
  try simp only [Act.put, List.getElem_toArray, List.getElem_cons_zero, List.getElem_cons_succ, List.setIfInBounds_toArray, List.set_cons_zero, List.set_cons_succ]
  refine wpAnyH_take (i := 92) (v := ?_) rfl (by as_aux_lemma => kernel_rfl) (by as_aux_lemma => kernel_rfl) (by as_aux_lemma => kernel_rfl) (fun _ _ _ h => h) (Or.inl ⟨by as_aux_lemma => rfl, ?yz92⟩) (by assumption) ?qz92
  case yz92 => (intro wz hSw; (try dsimp only at hSw); go_simp <;> with_reducible rfl)
  try simp only [Act.put, List.getElem_toArray, List.getElem_cons_zero, List.getElem_cons_succ, List.setIfInBounds_toArray, List.set_cons_zero, List.set_cons_succ]
  refine wpAnyH_take (i := 93) (v := ?_) rfl (by as_aux_lemma => kernel_rfl) (by as_aux_lemma => kernel_rfl) (by as_aux_lemma => kernel_rfl) (fun _ _ _ h => h) (Or.inl ⟨by as_aux_lemma => rfl, ?yz93⟩) (by assumption) ?qz93
  case yz93 => (intro wz hSw; (try dsimp only at hSw); go_simp <;> with_reducible rfl)
  try simp only [Act.put, List.getElem_toArray, List.getElem_cons_zero, List.getElem_cons_succ, List.setIfInBounds_toArray, List.set_cons_zero, List.set_cons_succ]
  refine wpAnyH_take (i := 94) (v := ?_) rfl (by as_aux_lemma => kernel_rfl) (by as_aux_lemma => kernel_rfl) (by as_aux_lemma => kernel_rfl) (fun _ _ _ h => h) (Or.inl ⟨by as_aux_lemma => rfl, ?yz94⟩) (by assumption) ?qz94
  case yz94 => (intro wz hSw; (try dsimp only at hSw); go_simp <;> with_reducible rfl)
  try simp only [Act.put, List.getElem_toArray, List.getElem_cons_zero, List.getElem_cons_succ, List.setIfInBounds_toArray, List.set_cons_zero, List.set_cons_succ]
  refine wpAnyH_take (i := 95) (v := ?_) rfl (by as_aux_lemma => kernel_rfl) (by as_aux_lemma => kernel_rfl) (by as_aux_lemma => kernel_rfl) (fun _ _ _ h => h) (Or.inl ⟨by as_aux_lemma => rfl, ?yz95⟩) (by assumption) ?qz95
  case yz95 => (intro wz hSw; (try dsimp only at hSw); go_simp <;> with_reducible rfl)
  try simp only [Act.put, List.getElem_toArray, List.getElem_cons_zero, List.getElem_cons_succ, List.setIfInBounds_toArray, List.set_cons_zero, List.set_cons_succ]
  refine wpAnyH_take (i := 96) (v := ?_) rfl (by as_aux_lemma => kernel_rfl) (by as_aux_lemma => kernel_rfl) (by as_aux_lemma => kernel_rfl) (fun _ _ _ h => h) (Or.inl ⟨by as_aux_lemma => rfl, ?yz96⟩) (by assumption) ?qz96
  case yz96 => (intro wz hSw; (try dsimp only at hSw); go_simp <;> with_reducible rfl)
  try simp only [Act.put, List.getElem_toArray, List.getElem_cons_zero, List.getElem_cons_succ, List.setIfInBounds_toArray, List.set_cons_zero, List.set_cons_succ]
  refine wpAnyH_take (i := 97) (v := ?_) rfl (by as_aux_lemma => kernel_rfl) (by as_aux_lemma => kernel_rfl) (by as_aux_lemma => kernel_rfl) (fun _ _ _ h => h) (Or.inl ⟨by as_aux_lemma => rfl, ?yz97⟩) (by assumption) ?qz97
  case yz97 => (intro wz hSw; (try dsimp only at hSw); go_simp <;> with_reducible rfl)
  try simp only [Act.put, List.getElem_toArray, List.getElem_cons_zero, List.getElem_cons_succ, List.setIfInBounds_toArray, List.set_cons_zero]
  refine wpAnyH_done (by as_aux_lemma => kernel_rfl) ?_ _
  go_wp2_with fail
  go_ret
  exact ⟨rfl, (HZ.out _ B20.out).2.1.1.2.1⟩
end Go.Proofs.Ytbgepeokadmemaa.Q
