/-
  Contract of the builder's put. Not a statement of the seat.
-/
import Derived.Test.YtpbkclciipmonaaHead3
import Derived.Deep.Cut
import Derived.Deep.CutRange
import Derived.Deep.DeepCutAuto
import Derived.Deep.RegionHeld3
namespace Go.Proofs.Ytpbkclciipmonaa.F
open Go.ChangeShapes Go.WideShapes Go.ChangeAt Go.RowKit Base
set_option maxHeartbeats 8000000 in
set_option maxRecDepth 100000 in
theorem bput {w : World} {B : Nat} {pv : Value} {o : Option Nat} {root had : Int} {room : Nat} {zs : List Cel} {why : Int} (c : Cel) (h : BI w B pv o root had room zs why) (hc : fitC c zs.length) (hok : c.ok) :
    Calls Try.prog 80 #[.pointer (some ⟨B, 0, none⟩), .agg #[.int .i64 c.l, .int .i64 c.r, .int .i64 c.k, .int .i64 c.v, .int .i64 c.s, .int .i64 c.h]] w (BP B pv o root had room (putM room zs why c).1 (putM room zs why c).2.1 (.int .i64 (putM room zs why c).2.2) w) := by
  have H0 := Lib.hid h
  obtain ⟨a, rfl⟩ : ∃ a, pv = .pointer a := by
    rcases h.2 with ⟨rfl, _⟩ | ⟨b, rfl, _⟩
    · exact ⟨_, rfl⟩
    · exact ⟨_, rfl⟩
  have hBl := (bcells h.1).1
  have HI : Hid (∀ X, Below (w.alloc (boxC c)).heap.size (w.alloc (boxC c)) X → BI X B (.pointer a) o root had room zs why ∧ X.heap[w.heap.size]? = some (boxC c)) := Lib.hid fun X hX => by
    have h1 := h.below ((Below.refl _ w).alloc (Nat.le_refl _) (boxC c))
    exact ⟨h1.below hX, (hX.block _ (by simp)).trans (heap_alloc_at _ _ _ rfl)⟩
  have HS : Hid (∀ X, Below (w.alloc (boxC c)).heap.size (w.alloc (boxC c)) X → ((X.cell? ⟨B, 0, none⟩ = some (.pointer a) ∧ X.cell? ⟨B, 1, none⟩ = some (.int .i64 root)) ∧ (X.cell? ⟨w.heap.size, 0, none⟩ = some (.int .i64 c.l) ∧ X.cell? ⟨w.heap.size, 1, none⟩ = some (.int .i64 c.r)))) := Lib.hid fun X hX => by
    have h1 := HI.out X hX
    have h2 := bcells h1.1.1
    have h3 := cellsC h1.2
    exact ⟨h2.2.1, h3.2.1, h3.2.2.1⟩
  have HC : Hid (∀ X i, Below (w.alloc (boxC c)).heap.size (w.alloc (boxC c)) X → Calls Try.prog 79 #[.agg #[.pointer a, .int .i64 root], .int .i64 i] X (CelIs (celAt zs i) X)) := Lib.hid fun X i hX => pmcell root i (HI.out X hX).1.2
  have HFR : Hid (∀ X, Below (w.alloc (boxC c)).heap.size (w.alloc (boxC c)) X → Fr (BF B (.pointer a) o) w X) := Lib.hid fun X hX => (Fr.of_below ((Below.refl _ w).alloc (Nat.le_refl _) (boxC c))).trans (Fr.of_below (F := fun _ => False) hX) (fun _ _ e => e.elim)
  have HE : Hid (∃ zs2 why2 i y, putM room zs why c = (zs2, why2, i) ∧ putA room zs (sized zs c) = (zs2, i, y) ∧ ((y = 0 ∧ why2 = why) ∨ (y = 2 ∧ why2 = 2))) := Lib.hid (by
    have hf : fitC (sized zs c) zs.length := hc
    unfold putM putA
    rw [if_pos hf]
    by_cases hr : zs.length < room
    · rw [if_pos hr, if_pos hr]; exact ⟨_, _, _, _, rfl, rfl, .inl ⟨rfl, rfl⟩⟩
    · rw [if_neg hr, if_neg hr]; exact ⟨_, _, _, _, rfl, rfl, .inr ⟨rfl, rfl⟩⟩)
  obtain ⟨zs2, why2, i, y, e1, e2, hy⟩ := HE.out
  have HY := Lib.hid hy
  rw [e1]
  have HP := Lib.hid (fun (X : World) (hX : ArV X (.pointer a) o room zs) => arput_v (sized zs c) X hX (sized_ok hok))
  rw [e2] at HP
  simp only at HP
  clear HE e1 e2 hy hc hok h
  go_enter Try.func80, Try.ntmps80
  go_upto_region 1 with fail
  go_cut [5, 6] (fun s5 s6 wx => ∃ g5 g6, s5 = .pointer (some ⟨g5, 0, none⟩) ∧ s6 = .pointer (some ⟨g6, 0, none⟩) ∧ Hid (RI (w.alloc (boxC c)) wx [(g5, boxC (celAt zs c.l)), (g6, boxC (celAt zs c.r))]))
  case first =>
    have J0 : Hid (RI (w.alloc (boxC c)) (w.alloc (boxC c)).drew []) := Lib.hid (RI.start _)
    refine wp_region_held_drew (S := (fun w' => ((w'.cell? ⟨B, 0, none⟩ = some (.pointer a) ∧ w'.cell? ⟨B, 1, none⟩ = some (.int .i64 root)) ∧ (w'.cell? ⟨w.heap.size, 0, none⟩ = some (.int .i64 c.l) ∧ w'.cell? ⟨w.heap.size, 1, none⟩ = some (.int .i64 c.r))))) (by kernel_rfl) (HS.out _ J0.out.1) (fun hHeld0 => ?_)
    refine wpAnyH_take (i := 0) (v := ?_) rfl (by kernel_rfl) (by kernel_rfl) (by kernel_rfl) (fun _ _ _ h => h) (Or.inl ⟨by rfl, ?yp1⟩) (by assumption) ?qp1
    case yp1 => (intro wz hSw; (try dsimp only at hSw); go_simp <;> with_reducible rfl)
    try simp only [Act.put, List.getElem_toArray, List.getElem_cons_zero, List.setIfInBounds_toArray, List.set_cons_zero, List.set_cons_succ]
    refine wpAnyH_take (i := 1) (v := ?_) rfl (by kernel_rfl) (by kernel_rfl) (by kernel_rfl) (fun _ _ _ h => h) (Or.inl ⟨by rfl, ?yp2⟩) (by assumption) ?qp2
    case yp2 => (intro wz hSw; (try dsimp only at hSw); go_simp <;> with_reducible rfl)
    try simp only [Act.put, List.getElem_toArray, List.getElem_cons_zero, List.getElem_cons_succ, List.setIfInBounds_toArray, List.set_cons_zero, List.set_cons_succ]
    refine wpAnyH_take (i := 2) (v := ?_) rfl (by kernel_rfl) (by kernel_rfl) (by kernel_rfl) (fun _ _ _ h => h) (Or.inl ⟨by rfl, ?yp3⟩) (by assumption) ?qp3
    case yp3 => (intro wz hSw; (try dsimp only at hSw); go_simp <;> with_reducible rfl)
    try simp only [Act.put, List.getElem_toArray, List.getElem_cons_zero, List.getElem_cons_succ, List.setIfInBounds_toArray, List.set_cons_zero, List.set_cons_succ]
    refine wpAnyH_take (i := 3) (v := ?_) rfl (by kernel_rfl) (by kernel_rfl) (by kernel_rfl) (fun _ _ _ h => h) (Or.inl ⟨by rfl, ?yp4⟩) (by assumption) ?qp4
    case yp4 => (intro wz hSw; (try dsimp only at hSw); go_simp <;> with_reducible rfl)
    try simp only [Act.put, List.getElem_toArray, List.getElem_cons_zero, List.getElem_cons_succ, List.setIfInBounds_toArray, List.set_cons_zero, List.set_cons_succ]
    refine wpAnyH_take (i := 4) (v := ?_) rfl (by kernel_rfl) (by kernel_rfl) (by kernel_rfl) (fun _ _ _ h => h) (Or.inl ⟨by rfl, ?yp5⟩) (by assumption) ?qp5
    case yp5 => (intro wz hSw; (try dsimp only at hSw); go_simp <;> with_reducible rfl)
    try simp only [Act.put, List.getElem_toArray, List.getElem_cons_zero, List.getElem_cons_succ, List.setIfInBounds_toArray, List.set_cons_zero, List.set_cons_succ]
    refine wpAnyH_take (i := 5) (v := ?_) rfl (by kernel_rfl) (by kernel_rfl) (by kernel_rfl) (fun _ _ _ h => h) (Or.inl ⟨by rfl, ?yp6⟩) (by assumption) ?qp6
    case yp6 => (intro wz hSw; (try dsimp only at hSw); go_simp <;> with_reducible rfl)
    try simp only [Act.put, List.getElem_toArray, List.getElem_cons_zero, List.getElem_cons_succ, List.setIfInBounds_toArray, List.set_cons_zero, List.set_cons_succ]
    refine wpAnyH_take (i := 7) (v := ?_) rfl (by kernel_rfl) (by kernel_rfl) (by kernel_rfl) (fun _ _ _ h => h) (Or.inl ⟨by rfl, ?yp7⟩) (by assumption) ?qp7
    case yp7 => (intro wz hSw; (try dsimp only at hSw); go_simp <;> with_reducible rfl)
    try simp only [Act.put, List.getElem_toArray, List.getElem_cons_zero, List.getElem_cons_succ, List.setIfInBounds_toArray, List.set_cons_zero, List.set_cons_succ]
    refine wpAnyH_take (i := 8) (v := ?_) rfl (by kernel_rfl) (by kernel_rfl) (by kernel_rfl) (fun _ _ _ h => h) (Or.inl ⟨by rfl, ?yp8⟩) (by assumption) ?qp8
    case yp8 => (intro wz hSw; (try dsimp only at hSw); go_simp <;> with_reducible rfl)
    try simp only [Act.put, List.getElem_toArray, List.getElem_cons_zero, List.getElem_cons_succ, List.setIfInBounds_toArray, List.set_cons_zero, List.set_cons_succ]
    refine wpAnyH_take (i := 9) (v := ?_) rfl (by kernel_rfl) (by kernel_rfl) (by kernel_rfl) (fun _ _ _ h => h) (Or.inl ⟨by rfl, ?yp9⟩) (by assumption) ?qp9
    case yp9 => (intro wz hSw; (try dsimp only at hSw); go_simp <;> with_reducible rfl)
    try simp only [Act.put, List.getElem_toArray, List.getElem_cons_zero, List.getElem_cons_succ, List.setIfInBounds_toArray, List.set_cons_zero, List.set_cons_succ]
    refine wpAnyH_take (i := 10) (v := ?_) rfl (by kernel_rfl) (by kernel_rfl) (by kernel_rfl) (fun _ _ _ h => h) (Or.inl ⟨by rfl, ?yp10⟩) (by assumption) ?qp10
    case yp10 => (intro wz hSw; (try dsimp only at hSw); go_simp <;> with_reducible rfl)
    try simp only [Act.put, List.getElem_toArray, List.getElem_cons_zero, List.getElem_cons_succ, List.setIfInBounds_toArray, List.set_cons_zero, List.set_cons_succ]
    refine wpAnyH_take (i := 11) (v := ?_) rfl (by kernel_rfl) (by kernel_rfl) (by kernel_rfl) (fun _ _ _ h => h) (Or.inl ⟨by rfl, ?yp11⟩) (by assumption) ?qp11
    case yp11 => (intro wz hSw; (try dsimp only at hSw); go_simp <;> with_reducible rfl)
    try simp only [Act.put, List.getElem_toArray, List.getElem_cons_zero, List.getElem_cons_succ, List.setIfInBounds_toArray, List.set_cons_zero, List.set_cons_succ]
    refine wpAnyH_take (i := 12) (v := ?_) rfl (by kernel_rfl) (by kernel_rfl) (by kernel_rfl) (fun _ _ _ h => h) (Or.inl ⟨by rfl, ?yp12⟩) (by assumption) ?qp12
    case yp12 => (intro wz hSw; (try dsimp only at hSw); go_simp <;> with_reducible rfl)
    try simp only [Act.put, List.getElem_toArray, List.getElem_cons_zero, List.getElem_cons_succ, List.setIfInBounds_toArray, List.set_cons_zero, List.set_cons_succ]
    refine wpAnyH_ready (rs := [6, 14, 15]) (by kernel_rfl) (by simp) ?_
    refine AllReadyH.cons rfl (fun K hK => ?bp13) ?cp13
    case bp13 =>
      go_simp
      refine (HC.out _ _ J0.out.1).mono ?_
      rintro e wn13 ⟨rfl, hb13⟩
      have J13 := Lib.hid (J0.out.call hb13)
      clear hb13
      try go_wp2_with fail
      refine hK.out _ _ (HS.out _ J13.out.1) (fun hHeld13 => ?_)
      clear hK K
      try simp only [Act.put, List.getElem_toArray, List.getElem_cons_zero, List.getElem_cons_succ, List.setIfInBounds_toArray, List.set_cons_zero, List.set_cons_succ]
      refine wpAnyH_ready (rs := [13, 14, 15]) (by kernel_rfl) (by simp) ?_
      refine AllReadyH.cons rfl (fun K hK => ?bp14) ?cp14
      case bp14 =>
        go_simp
        refine (HC.out _ _ J13.out.1).mono ?_
        rintro e wn14 ⟨rfl, hb14⟩
        have J14 := Lib.hid (J13.out.call hb14)
        clear hb14
        try go_wp2_with fail
        refine hK.out _ _ (HS.out _ J14.out.1) (fun hHeld14 => ?_)
        clear hK K
        try simp only [Act.put, List.getElem_toArray, List.getElem_cons_zero, List.getElem_cons_succ, List.setIfInBounds_toArray, List.set_cons_zero, List.set_cons_succ]
        refine wpAnyH_ready (rs := [14, 15]) (by kernel_rfl) (by simp) ?_
        refine AllReadyH.cons rfl (fun K hK => ?bp15) ?cp15
        case bp15 =>
          rw [if_pos (by rfl)]
          refine wp_alloc_cel rfl ?_
          intro g5 wn15 hg15 hw15
          have J15 : Hid (RI (w.alloc (boxC c)) wn15 ((g5, boxC Cel.zero) :: [])) := Lib.hid (by rw [hg15, hw15]; exact J14.out.alloc _)
          clear hg15 hw15
          refine hK.out _ _ (HS.out _ J15.out.1) (fun hHeld15 => ?_)
          clear hK K
          try simp only [Act.put, List.getElem_toArray, List.getElem_cons_zero, List.getElem_cons_succ, List.setIfInBounds_toArray, List.set_cons_zero, List.set_cons_succ]
          refine wpAnyH_ready (rs := [15]) (by kernel_rfl) (by simp) ?_
          refine AllReadyH.cons rfl (fun K hK => ?_) AllReadyH.nil
          rw [if_pos (by rfl)]
          refine wp_alloc_cel rfl ?_
          intro g6 wn16 hg16 hw16
          have J16 : Hid (RI (w.alloc (boxC c)) wn16 ((g6, boxC Cel.zero) :: [(g5, boxC Cel.zero)])) := Lib.hid (by rw [hg16, hw16]; exact J15.out.alloc _)
          clear hg16 hw16
          refine hK.out _ _ (HS.out _ J16.out.1) (fun hHeld16 => ?_)
          clear hK K
          try simp only [Act.put, List.getElem_toArray, List.getElem_cons_zero, List.getElem_cons_succ, List.setIfInBounds_toArray, List.set_cons_zero, List.set_cons_succ]
          refine wpAnyH_ready (rs := [16]) (by kernel_rfl) (by simp) ?_
          refine AllReadyH.cons rfl (fun K hK => ?_) AllReadyH.nil
          have JS17 := Lib.hid J16.out.swap
          rw [if_pos (by rfl)]
          refine wp_store_cel (.tmp 5) (.tmp 15) rfl g5 (celAt zs c.l) Cel.zero rfl rfl (JS17.out.at_ (List.mem_cons_self ..)).1 ?_
          intro wn17 hst17
          have J17 := Lib.hid (JS17.out.store hst17)
          clear hst17
          refine hK.out _ _ (HS.out _ J17.out.1) (fun hHeld17 => ?_)
          clear hK K
          try simp only [Act.put, List.getElem_toArray, List.getElem_cons_zero, List.getElem_cons_succ]
          refine wpAnyH_ready (rs := [17]) (by kernel_rfl) (by simp) ?_
          refine AllReadyH.cons rfl (fun K hK => ?_) AllReadyH.nil
          have JS18 := Lib.hid J17.out.swap
          rw [if_pos (by rfl)]
          refine wp_store_cel (.tmp 6) (.tmp 22) rfl g6 (celAt zs c.r) Cel.zero rfl rfl (JS18.out.at_ (List.mem_cons_self ..)).1 ?_
          intro wn18 hst18
          have J18 := Lib.hid (JS18.out.store hst18)
          clear hst18
          refine hK.out _ _ (HS.out _ J18.out.1) (fun hHeld18 => ?_)
          clear hK K
          try simp only [Act.put, List.getElem_toArray, List.getElem_cons_zero, List.getElem_cons_succ]
          refine wpAnyH_done (by kernel_rfl) ?_ _
          go_wp2_with fail
          go_meet
          case rel => exact ⟨g5, g6, rfl, rfl, Lib.hid (J18.out.swap)⟩
        refine AllReadyH.cons rfl (fun K hK => ?bp19) ?cp19
        case bp19 =>
          rw [if_pos (by rfl)]
          refine wp_alloc_cel rfl ?_
          intro g6 wn19 hg19 hw19
          have J19 : Hid (RI (w.alloc (boxC c)) wn19 ((g6, boxC Cel.zero) :: [])) := Lib.hid (by rw [hg19, hw19]; exact J14.out.alloc _)
          clear hg19 hw19
          refine hK.out _ _ (HS.out _ J19.out.1) (fun hHeld19 => ?_)
          clear hK K
          try simp only [Act.put, List.getElem_toArray, List.getElem_cons_zero, List.getElem_cons_succ, List.setIfInBounds_toArray, List.set_cons_zero, List.set_cons_succ]
          refine wpAnyH_ready (rs := [14]) (by kernel_rfl) (by simp) ?_
          refine AllReadyH.cons rfl (fun K hK => ?_) AllReadyH.nil
          rw [if_pos (by rfl)]
          refine wp_alloc_cel rfl ?_
          intro g5 wn20 hg20 hw20
          have J20 : Hid (RI (w.alloc (boxC c)) wn20 ((g5, boxC Cel.zero) :: [(g6, boxC Cel.zero)])) := Lib.hid (by rw [hg20, hw20]; exact J19.out.alloc _)
          clear hg20 hw20
          refine hK.out _ _ (HS.out _ J20.out.1) (fun hHeld20 => ?_)
          clear hK K
          try simp only [Act.put, List.getElem_toArray, List.getElem_cons_zero, List.getElem_cons_succ, List.setIfInBounds_toArray, List.set_cons_zero, List.set_cons_succ]
          refine wpAnyH_ready (rs := [16]) (by kernel_rfl) (by simp) ?_
          refine AllReadyH.cons rfl (fun K hK => ?_) AllReadyH.nil
          rw [if_pos (by rfl)]
          refine wp_store_cel (.tmp 5) (.tmp 15) rfl g5 (celAt zs c.l) Cel.zero rfl rfl (J20.out.at_ (List.mem_cons_self ..)).1 ?_
          intro wn21 hst21
          have J21 := Lib.hid (J20.out.store hst21)
          clear hst21
          refine hK.out _ _ (HS.out _ J21.out.1) (fun hHeld21 => ?_)
          clear hK K
          try simp only [Act.put, List.getElem_toArray, List.getElem_cons_zero, List.getElem_cons_succ]
          refine wpAnyH_ready (rs := [17]) (by kernel_rfl) (by simp) ?_
          refine AllReadyH.cons rfl (fun K hK => ?_) AllReadyH.nil
          have JS22 := Lib.hid J21.out.swap
          rw [if_pos (by rfl)]
          refine wp_store_cel (.tmp 6) (.tmp 22) rfl g6 (celAt zs c.r) Cel.zero rfl rfl (JS22.out.at_ (List.mem_cons_self ..)).1 ?_
          intro wn22 hst22
          have J22 := Lib.hid (JS22.out.store hst22)
          clear hst22
          refine hK.out _ _ (HS.out _ J22.out.1) (fun hHeld22 => ?_)
          clear hK K
          try simp only [Act.put, List.getElem_toArray, List.getElem_cons_zero, List.getElem_cons_succ]
          refine wpAnyH_done (by kernel_rfl) ?_ _
          go_wp2_with fail
          go_meet
          case rel => exact ⟨g5, g6, rfl, rfl, Lib.hid (J22.out.swap)⟩
        exact AllReadyH.nil
      refine AllReadyH.cons rfl (fun K hK => ?bp23) ?cp23
      case bp23 =>
        rw [if_pos (by rfl)]
        refine wp_alloc_cel rfl ?_
        intro g5 wn23 hg23 hw23
        have J23 : Hid (RI (w.alloc (boxC c)) wn23 ((g5, boxC Cel.zero) :: [])) := Lib.hid (by rw [hg23, hw23]; exact J13.out.alloc _)
        clear hg23 hw23
        refine hK.out _ _ (HS.out _ J23.out.1) (fun hHeld23 => ?_)
        clear hK K
        try simp only [Act.put, List.getElem_toArray, List.getElem_cons_zero, List.getElem_cons_succ, List.setIfInBounds_toArray, List.set_cons_zero, List.set_cons_succ]
        refine wpAnyH_ready (rs := [13, 15]) (by kernel_rfl) (by simp) ?_
        refine AllReadyH.cons rfl (fun K hK => ?bp24) ?cp24
        case bp24 =>
          go_simp
          refine (HC.out _ _ J23.out.1).mono ?_
          rintro e wn24 ⟨rfl, hb24⟩
          have J24 := Lib.hid (J23.out.call hb24)
          clear hb24
          try go_wp2_with fail
          refine hK.out _ _ (HS.out _ J24.out.1) (fun hHeld24 => ?_)
          clear hK K
          try simp only [Act.put, List.getElem_toArray, List.getElem_cons_zero, List.getElem_cons_succ, List.setIfInBounds_toArray, List.set_cons_zero, List.set_cons_succ]
          refine wpAnyH_ready (rs := [15]) (by kernel_rfl) (by simp) ?_
          refine AllReadyH.cons rfl (fun K hK => ?_) AllReadyH.nil
          rw [if_pos (by rfl)]
          refine wp_alloc_cel rfl ?_
          intro g6 wn25 hg25 hw25
          have J25 : Hid (RI (w.alloc (boxC c)) wn25 ((g6, boxC Cel.zero) :: [(g5, boxC Cel.zero)])) := Lib.hid (by rw [hg25, hw25]; exact J24.out.alloc _)
          clear hg25 hw25
          refine hK.out _ _ (HS.out _ J25.out.1) (fun hHeld25 => ?_)
          clear hK K
          try simp only [Act.put, List.getElem_toArray, List.getElem_cons_zero, List.getElem_cons_succ, List.setIfInBounds_toArray, List.set_cons_zero, List.set_cons_succ]
          refine wpAnyH_ready (rs := [16]) (by kernel_rfl) (by simp) ?_
          refine AllReadyH.cons rfl (fun K hK => ?_) AllReadyH.nil
          have JS26 := Lib.hid J25.out.swap
          rw [if_pos (by rfl)]
          refine wp_store_cel (.tmp 5) (.tmp 15) rfl g5 (celAt zs c.l) Cel.zero rfl rfl (JS26.out.at_ (List.mem_cons_self ..)).1 ?_
          intro wn26 hst26
          have J26 := Lib.hid (JS26.out.store hst26)
          clear hst26
          refine hK.out _ _ (HS.out _ J26.out.1) (fun hHeld26 => ?_)
          clear hK K
          try simp only [Act.put, List.getElem_toArray, List.getElem_cons_zero, List.getElem_cons_succ]
          refine wpAnyH_ready (rs := [17]) (by kernel_rfl) (by simp) ?_
          refine AllReadyH.cons rfl (fun K hK => ?_) AllReadyH.nil
          have JS27 := Lib.hid J26.out.swap
          rw [if_pos (by rfl)]
          refine wp_store_cel (.tmp 6) (.tmp 22) rfl g6 (celAt zs c.r) Cel.zero rfl rfl (JS27.out.at_ (List.mem_cons_self ..)).1 ?_
          intro wn27 hst27
          have J27 := Lib.hid (JS27.out.store hst27)
          clear hst27
          refine hK.out _ _ (HS.out _ J27.out.1) (fun hHeld27 => ?_)
          clear hK K
          try simp only [Act.put, List.getElem_toArray, List.getElem_cons_zero, List.getElem_cons_succ]
          refine wpAnyH_done (by kernel_rfl) ?_ _
          go_wp2_with fail
          go_meet
          case rel => exact ⟨g5, g6, rfl, rfl, Lib.hid (J27.out.swap)⟩
        refine AllReadyH.cons rfl (fun K hK => ?bp28) ?cp28
        case bp28 =>
          rw [if_pos (by rfl)]
          refine wp_alloc_cel rfl ?_
          intro g6 wn28 hg28 hw28
          have J28 : Hid (RI (w.alloc (boxC c)) wn28 ((g6, boxC Cel.zero) :: [(g5, boxC Cel.zero)])) := Lib.hid (by rw [hg28, hw28]; exact J23.out.alloc _)
          clear hg28 hw28
          refine hK.out _ _ (HS.out _ J28.out.1) (fun hHeld28 => ?_)
          clear hK K
          try simp only [Act.put, List.getElem_toArray, List.getElem_cons_zero, List.getElem_cons_succ, List.setIfInBounds_toArray, List.set_cons_zero, List.set_cons_succ]
          refine wpAnyH_ready (rs := [13]) (by kernel_rfl) (by simp) ?_
          refine AllReadyH.cons rfl (fun K hK => ?_) AllReadyH.nil
          go_simp
          refine (HC.out _ _ J28.out.1).mono ?_
          rintro e wn29 ⟨rfl, hb29⟩
          have J29 := Lib.hid (J28.out.call hb29)
          clear hb29
          try go_wp2_with fail
          refine hK.out _ _ (HS.out _ J29.out.1) (fun hHeld29 => ?_)
          clear hK K
          try simp only [Act.put, List.getElem_toArray, List.getElem_cons_zero, List.getElem_cons_succ, List.setIfInBounds_toArray, List.set_cons_zero, List.set_cons_succ]
          refine wpAnyH_ready (rs := [16]) (by kernel_rfl) (by simp) ?_
          refine AllReadyH.cons rfl (fun K hK => ?_) AllReadyH.nil
          have JS30 := Lib.hid J29.out.swap
          rw [if_pos (by rfl)]
          refine wp_store_cel (.tmp 5) (.tmp 15) rfl g5 (celAt zs c.l) Cel.zero rfl rfl (JS30.out.at_ (List.mem_cons_self ..)).1 ?_
          intro wn30 hst30
          have J30 := Lib.hid (JS30.out.store hst30)
          clear hst30
          refine hK.out _ _ (HS.out _ J30.out.1) (fun hHeld30 => ?_)
          clear hK K
          try simp only [Act.put, List.getElem_toArray, List.getElem_cons_zero, List.getElem_cons_succ]
          refine wpAnyH_ready (rs := [17]) (by kernel_rfl) (by simp) ?_
          refine AllReadyH.cons rfl (fun K hK => ?_) AllReadyH.nil
          have JS31 := Lib.hid J30.out.swap
          rw [if_pos (by rfl)]
          refine wp_store_cel (.tmp 6) (.tmp 22) rfl g6 (celAt zs c.r) Cel.zero rfl rfl (JS31.out.at_ (List.mem_cons_self ..)).1 ?_
          intro wn31 hst31
          have J31 := Lib.hid (JS31.out.store hst31)
          clear hst31
          refine hK.out _ _ (HS.out _ J31.out.1) (fun hHeld31 => ?_)
          clear hK K
          try simp only [Act.put, List.getElem_toArray, List.getElem_cons_zero, List.getElem_cons_succ]
          refine wpAnyH_done (by kernel_rfl) ?_ _
          go_wp2_with fail
          go_meet
          case rel => exact ⟨g5, g6, rfl, rfl, Lib.hid (J31.out.swap)⟩
        exact AllReadyH.nil
      refine AllReadyH.cons rfl (fun K hK => ?bp32) ?cp32
      case bp32 =>
        rw [if_pos (by rfl)]
        refine wp_alloc_cel rfl ?_
        intro g6 wn32 hg32 hw32
        have J32 : Hid (RI (w.alloc (boxC c)) wn32 ((g6, boxC Cel.zero) :: [])) := Lib.hid (by rw [hg32, hw32]; exact J13.out.alloc _)
        clear hg32 hw32
        refine hK.out _ _ (HS.out _ J32.out.1) (fun hHeld32 => ?_)
        clear hK K
        try simp only [Act.put, List.getElem_toArray, List.getElem_cons_zero, List.getElem_cons_succ, List.setIfInBounds_toArray, List.set_cons_zero, List.set_cons_succ]
        refine wpAnyH_ready (rs := [13, 14]) (by kernel_rfl) (by simp) ?_
        refine AllReadyH.cons rfl (fun K hK => ?bp33) ?cp33
        case bp33 =>
          go_simp
          refine (HC.out _ _ J32.out.1).mono ?_
          rintro e wn33 ⟨rfl, hb33⟩
          have J33 := Lib.hid (J32.out.call hb33)
          clear hb33
          try go_wp2_with fail
          refine hK.out _ _ (HS.out _ J33.out.1) (fun hHeld33 => ?_)
          clear hK K
          try simp only [Act.put, List.getElem_toArray, List.getElem_cons_zero, List.getElem_cons_succ, List.setIfInBounds_toArray, List.set_cons_zero, List.set_cons_succ]
          refine wpAnyH_ready (rs := [14]) (by kernel_rfl) (by simp) ?_
          refine AllReadyH.cons rfl (fun K hK => ?_) AllReadyH.nil
          rw [if_pos (by rfl)]
          refine wp_alloc_cel rfl ?_
          intro g5 wn34 hg34 hw34
          have J34 : Hid (RI (w.alloc (boxC c)) wn34 ((g5, boxC Cel.zero) :: [(g6, boxC Cel.zero)])) := Lib.hid (by rw [hg34, hw34]; exact J33.out.alloc _)
          clear hg34 hw34
          refine hK.out _ _ (HS.out _ J34.out.1) (fun hHeld34 => ?_)
          clear hK K
          try simp only [Act.put, List.getElem_toArray, List.getElem_cons_zero, List.getElem_cons_succ, List.setIfInBounds_toArray, List.set_cons_zero, List.set_cons_succ]
          refine wpAnyH_ready (rs := [16]) (by kernel_rfl) (by simp) ?_
          refine AllReadyH.cons rfl (fun K hK => ?_) AllReadyH.nil
          rw [if_pos (by rfl)]
          refine wp_store_cel (.tmp 5) (.tmp 15) rfl g5 (celAt zs c.l) Cel.zero rfl rfl (J34.out.at_ (List.mem_cons_self ..)).1 ?_
          intro wn35 hst35
          have J35 := Lib.hid (J34.out.store hst35)
          clear hst35
          refine hK.out _ _ (HS.out _ J35.out.1) (fun hHeld35 => ?_)
          clear hK K
          try simp only [Act.put, List.getElem_toArray, List.getElem_cons_zero, List.getElem_cons_succ]
          refine wpAnyH_ready (rs := [17]) (by kernel_rfl) (by simp) ?_
          refine AllReadyH.cons rfl (fun K hK => ?_) AllReadyH.nil
          have JS36 := Lib.hid J35.out.swap
          rw [if_pos (by rfl)]
          refine wp_store_cel (.tmp 6) (.tmp 22) rfl g6 (celAt zs c.r) Cel.zero rfl rfl (JS36.out.at_ (List.mem_cons_self ..)).1 ?_
          intro wn36 hst36
          have J36 := Lib.hid (JS36.out.store hst36)
          clear hst36
          refine hK.out _ _ (HS.out _ J36.out.1) (fun hHeld36 => ?_)
          clear hK K
          try simp only [Act.put, List.getElem_toArray, List.getElem_cons_zero, List.getElem_cons_succ]
          refine wpAnyH_done (by kernel_rfl) ?_ _
          go_wp2_with fail
          go_meet
          case rel => exact ⟨g5, g6, rfl, rfl, Lib.hid (J36.out.swap)⟩
        refine AllReadyH.cons rfl (fun K hK => ?bp37) ?cp37
        case bp37 =>
          rw [if_pos (by rfl)]
          refine wp_alloc_cel rfl ?_
          intro g5 wn37 hg37 hw37
          have J37 : Hid (RI (w.alloc (boxC c)) wn37 ((g5, boxC Cel.zero) :: [(g6, boxC Cel.zero)])) := Lib.hid (by rw [hg37, hw37]; exact J32.out.alloc _)
          clear hg37 hw37
          refine hK.out _ _ (HS.out _ J37.out.1) (fun hHeld37 => ?_)
          clear hK K
          try simp only [Act.put, List.getElem_toArray, List.getElem_cons_zero, List.getElem_cons_succ, List.setIfInBounds_toArray, List.set_cons_zero, List.set_cons_succ]
          refine wpAnyH_ready (rs := [13]) (by kernel_rfl) (by simp) ?_
          refine AllReadyH.cons rfl (fun K hK => ?_) AllReadyH.nil
          go_simp
          refine (HC.out _ _ J37.out.1).mono ?_
          rintro e wn38 ⟨rfl, hb38⟩
          have J38 := Lib.hid (J37.out.call hb38)
          clear hb38
          try go_wp2_with fail
          refine hK.out _ _ (HS.out _ J38.out.1) (fun hHeld38 => ?_)
          clear hK K
          try simp only [Act.put, List.getElem_toArray, List.getElem_cons_zero, List.getElem_cons_succ, List.setIfInBounds_toArray, List.set_cons_zero, List.set_cons_succ]
          refine wpAnyH_ready (rs := [16]) (by kernel_rfl) (by simp) ?_
          refine AllReadyH.cons rfl (fun K hK => ?_) AllReadyH.nil
          rw [if_pos (by rfl)]
          refine wp_store_cel (.tmp 5) (.tmp 15) rfl g5 (celAt zs c.l) Cel.zero rfl rfl (J38.out.at_ (List.mem_cons_self ..)).1 ?_
          intro wn39 hst39
          have J39 := Lib.hid (J38.out.store hst39)
          clear hst39
          refine hK.out _ _ (HS.out _ J39.out.1) (fun hHeld39 => ?_)
          clear hK K
          try simp only [Act.put, List.getElem_toArray, List.getElem_cons_zero, List.getElem_cons_succ]
          refine wpAnyH_ready (rs := [17]) (by kernel_rfl) (by simp) ?_
          refine AllReadyH.cons rfl (fun K hK => ?_) AllReadyH.nil
          have JS40 := Lib.hid J39.out.swap
          rw [if_pos (by rfl)]
          refine wp_store_cel (.tmp 6) (.tmp 22) rfl g6 (celAt zs c.r) Cel.zero rfl rfl (JS40.out.at_ (List.mem_cons_self ..)).1 ?_
          intro wn40 hst40
          have J40 := Lib.hid (JS40.out.store hst40)
          clear hst40
          refine hK.out _ _ (HS.out _ J40.out.1) (fun hHeld40 => ?_)
          clear hK K
          try simp only [Act.put, List.getElem_toArray, List.getElem_cons_zero, List.getElem_cons_succ]
          refine wpAnyH_done (by kernel_rfl) ?_ _
          go_wp2_with fail
          go_meet
          case rel => exact ⟨g5, g6, rfl, rfl, Lib.hid (J40.out.swap)⟩
        exact AllReadyH.nil
      exact AllReadyH.nil
    refine AllReadyH.cons rfl (fun K hK => ?bp41) ?cp41
    case bp41 =>
      rw [if_pos (by rfl)]
      refine wp_alloc_cel rfl ?_
      intro g5 wn41 hg41 hw41
      have J41 : Hid (RI (w.alloc (boxC c)) wn41 ((g5, boxC Cel.zero) :: [])) := Lib.hid (by rw [hg41, hw41]; exact J0.out.alloc _)
      clear hg41 hw41
      refine hK.out _ _ (HS.out _ J41.out.1) (fun hHeld41 => ?_)
      clear hK K
      try simp only [Act.put, List.getElem_toArray, List.getElem_cons_zero, List.getElem_cons_succ, List.setIfInBounds_toArray, List.set_cons_zero, List.set_cons_succ]
      refine wpAnyH_ready (rs := [6, 15]) (by kernel_rfl) (by simp) ?_
      refine AllReadyH.cons rfl (fun K hK => ?bp42) ?cp42
      case bp42 =>
        go_simp
        refine (HC.out _ _ J41.out.1).mono ?_
        rintro e wn42 ⟨rfl, hb42⟩
        have J42 := Lib.hid (J41.out.call hb42)
        clear hb42
        try go_wp2_with fail
        refine hK.out _ _ (HS.out _ J42.out.1) (fun hHeld42 => ?_)
        clear hK K
        try simp only [Act.put, List.getElem_toArray, List.getElem_cons_zero, List.getElem_cons_succ, List.setIfInBounds_toArray, List.set_cons_zero, List.set_cons_succ]
        refine wpAnyH_ready (rs := [13, 15]) (by kernel_rfl) (by simp) ?_
        refine AllReadyH.cons rfl (fun K hK => ?bp43) ?cp43
        case bp43 =>
          go_simp
          refine (HC.out _ _ J42.out.1).mono ?_
          rintro e wn43 ⟨rfl, hb43⟩
          have J43 := Lib.hid (J42.out.call hb43)
          clear hb43
          try go_wp2_with fail
          refine hK.out _ _ (HS.out _ J43.out.1) (fun hHeld43 => ?_)
          clear hK K
          try simp only [Act.put, List.getElem_toArray, List.getElem_cons_zero, List.getElem_cons_succ, List.setIfInBounds_toArray, List.set_cons_zero, List.set_cons_succ]
          refine wpAnyH_ready (rs := [15]) (by kernel_rfl) (by simp) ?_
          refine AllReadyH.cons rfl (fun K hK => ?_) AllReadyH.nil
          rw [if_pos (by rfl)]
          refine wp_alloc_cel rfl ?_
          intro g6 wn44 hg44 hw44
          have J44 : Hid (RI (w.alloc (boxC c)) wn44 ((g6, boxC Cel.zero) :: [(g5, boxC Cel.zero)])) := Lib.hid (by rw [hg44, hw44]; exact J43.out.alloc _)
          clear hg44 hw44
          refine hK.out _ _ (HS.out _ J44.out.1) (fun hHeld44 => ?_)
          clear hK K
          try simp only [Act.put, List.getElem_toArray, List.getElem_cons_zero, List.getElem_cons_succ, List.setIfInBounds_toArray, List.set_cons_zero, List.set_cons_succ]
          refine wpAnyH_ready (rs := [16]) (by kernel_rfl) (by simp) ?_
          refine AllReadyH.cons rfl (fun K hK => ?_) AllReadyH.nil
          have JS45 := Lib.hid J44.out.swap
          rw [if_pos (by rfl)]
          refine wp_store_cel (.tmp 5) (.tmp 15) rfl g5 (celAt zs c.l) Cel.zero rfl rfl (JS45.out.at_ (List.mem_cons_self ..)).1 ?_
          intro wn45 hst45
          have J45 := Lib.hid (JS45.out.store hst45)
          clear hst45
          refine hK.out _ _ (HS.out _ J45.out.1) (fun hHeld45 => ?_)
          clear hK K
          try simp only [Act.put, List.getElem_toArray, List.getElem_cons_zero, List.getElem_cons_succ]
          refine wpAnyH_ready (rs := [17]) (by kernel_rfl) (by simp) ?_
          refine AllReadyH.cons rfl (fun K hK => ?_) AllReadyH.nil
          have JS46 := Lib.hid J45.out.swap
          rw [if_pos (by rfl)]
          refine wp_store_cel (.tmp 6) (.tmp 22) rfl g6 (celAt zs c.r) Cel.zero rfl rfl (JS46.out.at_ (List.mem_cons_self ..)).1 ?_
          intro wn46 hst46
          have J46 := Lib.hid (JS46.out.store hst46)
          clear hst46
          refine hK.out _ _ (HS.out _ J46.out.1) (fun hHeld46 => ?_)
          clear hK K
          try simp only [Act.put, List.getElem_toArray, List.getElem_cons_zero, List.getElem_cons_succ]
          refine wpAnyH_done (by kernel_rfl) ?_ _
          go_wp2_with fail
          go_meet
          case rel => exact ⟨g5, g6, rfl, rfl, Lib.hid (J46.out.swap)⟩
        refine AllReadyH.cons rfl (fun K hK => ?bp47) ?cp47
        case bp47 =>
          rw [if_pos (by rfl)]
          refine wp_alloc_cel rfl ?_
          intro g6 wn47 hg47 hw47
          have J47 : Hid (RI (w.alloc (boxC c)) wn47 ((g6, boxC Cel.zero) :: [(g5, boxC Cel.zero)])) := Lib.hid (by rw [hg47, hw47]; exact J42.out.alloc _)
          clear hg47 hw47
          refine hK.out _ _ (HS.out _ J47.out.1) (fun hHeld47 => ?_)
          clear hK K
          try simp only [Act.put, List.getElem_toArray, List.getElem_cons_zero, List.getElem_cons_succ, List.setIfInBounds_toArray, List.set_cons_zero, List.set_cons_succ]
          refine wpAnyH_ready (rs := [13]) (by kernel_rfl) (by simp) ?_
          refine AllReadyH.cons rfl (fun K hK => ?_) AllReadyH.nil
          go_simp
          refine (HC.out _ _ J47.out.1).mono ?_
          rintro e wn48 ⟨rfl, hb48⟩
          have J48 := Lib.hid (J47.out.call hb48)
          clear hb48
          try go_wp2_with fail
          refine hK.out _ _ (HS.out _ J48.out.1) (fun hHeld48 => ?_)
          clear hK K
          try simp only [Act.put, List.getElem_toArray, List.getElem_cons_zero, List.getElem_cons_succ, List.setIfInBounds_toArray, List.set_cons_zero, List.set_cons_succ]
          refine wpAnyH_ready (rs := [16]) (by kernel_rfl) (by simp) ?_
          refine AllReadyH.cons rfl (fun K hK => ?_) AllReadyH.nil
          have JS49 := Lib.hid J48.out.swap
          rw [if_pos (by rfl)]
          refine wp_store_cel (.tmp 5) (.tmp 15) rfl g5 (celAt zs c.l) Cel.zero rfl rfl (JS49.out.at_ (List.mem_cons_self ..)).1 ?_
          intro wn49 hst49
          have J49 := Lib.hid (JS49.out.store hst49)
          clear hst49
          refine hK.out _ _ (HS.out _ J49.out.1) (fun hHeld49 => ?_)
          clear hK K
          try simp only [Act.put, List.getElem_toArray, List.getElem_cons_zero, List.getElem_cons_succ]
          refine wpAnyH_ready (rs := [17]) (by kernel_rfl) (by simp) ?_
          refine AllReadyH.cons rfl (fun K hK => ?_) AllReadyH.nil
          have JS50 := Lib.hid J49.out.swap
          rw [if_pos (by rfl)]
          refine wp_store_cel (.tmp 6) (.tmp 22) rfl g6 (celAt zs c.r) Cel.zero rfl rfl (JS50.out.at_ (List.mem_cons_self ..)).1 ?_
          intro wn50 hst50
          have J50 := Lib.hid (JS50.out.store hst50)
          clear hst50
          refine hK.out _ _ (HS.out _ J50.out.1) (fun hHeld50 => ?_)
          clear hK K
          try simp only [Act.put, List.getElem_toArray, List.getElem_cons_zero, List.getElem_cons_succ]
          refine wpAnyH_done (by kernel_rfl) ?_ _
          go_wp2_with fail
          go_meet
          case rel => exact ⟨g5, g6, rfl, rfl, Lib.hid (J50.out.swap)⟩
        exact AllReadyH.nil
      refine AllReadyH.cons rfl (fun K hK => ?bp51) ?cp51
      case bp51 =>
        rw [if_pos (by rfl)]
        refine wp_alloc_cel rfl ?_
        intro g6 wn51 hg51 hw51
        have J51 : Hid (RI (w.alloc (boxC c)) wn51 ((g6, boxC Cel.zero) :: [(g5, boxC Cel.zero)])) := Lib.hid (by rw [hg51, hw51]; exact J41.out.alloc _)
        clear hg51 hw51
        refine hK.out _ _ (HS.out _ J51.out.1) (fun hHeld51 => ?_)
        clear hK K
        try simp only [Act.put, List.getElem_toArray, List.getElem_cons_zero, List.getElem_cons_succ, List.setIfInBounds_toArray, List.set_cons_zero, List.set_cons_succ]
        refine wpAnyH_ready (rs := [6]) (by kernel_rfl) (by simp) ?_
        refine AllReadyH.cons rfl (fun K hK => ?_) AllReadyH.nil
        go_simp
        refine (HC.out _ _ J51.out.1).mono ?_
        rintro e wn52 ⟨rfl, hb52⟩
        have J52 := Lib.hid (J51.out.call hb52)
        clear hb52
        try go_wp2_with fail
        refine hK.out _ _ (HS.out _ J52.out.1) (fun hHeld52 => ?_)
        clear hK K
        try simp only [Act.put, List.getElem_toArray, List.getElem_cons_zero, List.getElem_cons_succ, List.setIfInBounds_toArray, List.set_cons_zero, List.set_cons_succ]
        refine wpAnyH_ready (rs := [13]) (by kernel_rfl) (by simp) ?_
        refine AllReadyH.cons rfl (fun K hK => ?_) AllReadyH.nil
        go_simp
        refine (HC.out _ _ J52.out.1).mono ?_
        rintro e wn53 ⟨rfl, hb53⟩
        have J53 := Lib.hid (J52.out.call hb53)
        clear hb53
        try go_wp2_with fail
        refine hK.out _ _ (HS.out _ J53.out.1) (fun hHeld53 => ?_)
        clear hK K
        try simp only [Act.put, List.getElem_toArray, List.getElem_cons_zero, List.getElem_cons_succ, List.setIfInBounds_toArray, List.set_cons_zero, List.set_cons_succ]
        refine wpAnyH_ready (rs := [16]) (by kernel_rfl) (by simp) ?_
        refine AllReadyH.cons rfl (fun K hK => ?_) AllReadyH.nil
        have JS54 := Lib.hid J53.out.swap
        rw [if_pos (by rfl)]
        refine wp_store_cel (.tmp 5) (.tmp 15) rfl g5 (celAt zs c.l) Cel.zero rfl rfl (JS54.out.at_ (List.mem_cons_self ..)).1 ?_
        intro wn54 hst54
        have J54 := Lib.hid (JS54.out.store hst54)
        clear hst54
        refine hK.out _ _ (HS.out _ J54.out.1) (fun hHeld54 => ?_)
        clear hK K
        try simp only [Act.put, List.getElem_toArray, List.getElem_cons_zero, List.getElem_cons_succ]
        refine wpAnyH_ready (rs := [17]) (by kernel_rfl) (by simp) ?_
        refine AllReadyH.cons rfl (fun K hK => ?_) AllReadyH.nil
        have JS55 := Lib.hid J54.out.swap
        rw [if_pos (by rfl)]
        refine wp_store_cel (.tmp 6) (.tmp 22) rfl g6 (celAt zs c.r) Cel.zero rfl rfl (JS55.out.at_ (List.mem_cons_self ..)).1 ?_
        intro wn55 hst55
        have J55 := Lib.hid (JS55.out.store hst55)
        clear hst55
        refine hK.out _ _ (HS.out _ J55.out.1) (fun hHeld55 => ?_)
        clear hK K
        try simp only [Act.put, List.getElem_toArray, List.getElem_cons_zero, List.getElem_cons_succ]
        refine wpAnyH_done (by kernel_rfl) ?_ _
        go_wp2_with fail
        go_meet
        case rel => exact ⟨g5, g6, rfl, rfl, Lib.hid (J55.out.swap)⟩
      exact AllReadyH.nil
    refine AllReadyH.cons rfl (fun K hK => ?bp56) ?cp56
    case bp56 =>
      rw [if_pos (by rfl)]
      refine wp_alloc_cel rfl ?_
      intro g6 wn56 hg56 hw56
      have J56 : Hid (RI (w.alloc (boxC c)) wn56 ((g6, boxC Cel.zero) :: [])) := Lib.hid (by rw [hg56, hw56]; exact J0.out.alloc _)
      clear hg56 hw56
      refine hK.out _ _ (HS.out _ J56.out.1) (fun hHeld56 => ?_)
      clear hK K
      try simp only [Act.put, List.getElem_toArray, List.getElem_cons_zero, List.getElem_cons_succ, List.setIfInBounds_toArray, List.set_cons_zero, List.set_cons_succ]
      refine wpAnyH_ready (rs := [6, 14]) (by kernel_rfl) (by simp) ?_
      refine AllReadyH.cons rfl (fun K hK => ?bp57) ?cp57
      case bp57 =>
        go_simp
        refine (HC.out _ _ J56.out.1).mono ?_
        rintro e wn57 ⟨rfl, hb57⟩
        have J57 := Lib.hid (J56.out.call hb57)
        clear hb57
        try go_wp2_with fail
        refine hK.out _ _ (HS.out _ J57.out.1) (fun hHeld57 => ?_)
        clear hK K
        try simp only [Act.put, List.getElem_toArray, List.getElem_cons_zero, List.getElem_cons_succ, List.setIfInBounds_toArray, List.set_cons_zero, List.set_cons_succ]
        refine wpAnyH_ready (rs := [13, 14]) (by kernel_rfl) (by simp) ?_
        refine AllReadyH.cons rfl (fun K hK => ?bp58) ?cp58
        case bp58 =>
          go_simp
          refine (HC.out _ _ J57.out.1).mono ?_
          rintro e wn58 ⟨rfl, hb58⟩
          have J58 := Lib.hid (J57.out.call hb58)
          clear hb58
          try go_wp2_with fail
          refine hK.out _ _ (HS.out _ J58.out.1) (fun hHeld58 => ?_)
          clear hK K
          try simp only [Act.put, List.getElem_toArray, List.getElem_cons_zero, List.getElem_cons_succ, List.setIfInBounds_toArray, List.set_cons_zero, List.set_cons_succ]
          refine wpAnyH_ready (rs := [14]) (by kernel_rfl) (by simp) ?_
          refine AllReadyH.cons rfl (fun K hK => ?_) AllReadyH.nil
          rw [if_pos (by rfl)]
          refine wp_alloc_cel rfl ?_
          intro g5 wn59 hg59 hw59
          have J59 : Hid (RI (w.alloc (boxC c)) wn59 ((g5, boxC Cel.zero) :: [(g6, boxC Cel.zero)])) := Lib.hid (by rw [hg59, hw59]; exact J58.out.alloc _)
          clear hg59 hw59
          refine hK.out _ _ (HS.out _ J59.out.1) (fun hHeld59 => ?_)
          clear hK K
          try simp only [Act.put, List.getElem_toArray, List.getElem_cons_zero, List.getElem_cons_succ, List.setIfInBounds_toArray, List.set_cons_zero, List.set_cons_succ]
          refine wpAnyH_ready (rs := [16]) (by kernel_rfl) (by simp) ?_
          refine AllReadyH.cons rfl (fun K hK => ?_) AllReadyH.nil
          rw [if_pos (by rfl)]
          refine wp_store_cel (.tmp 5) (.tmp 15) rfl g5 (celAt zs c.l) Cel.zero rfl rfl (J59.out.at_ (List.mem_cons_self ..)).1 ?_
          intro wn60 hst60
          have J60 := Lib.hid (J59.out.store hst60)
          clear hst60
          refine hK.out _ _ (HS.out _ J60.out.1) (fun hHeld60 => ?_)
          clear hK K
          try simp only [Act.put, List.getElem_toArray, List.getElem_cons_zero, List.getElem_cons_succ]
          refine wpAnyH_ready (rs := [17]) (by kernel_rfl) (by simp) ?_
          refine AllReadyH.cons rfl (fun K hK => ?_) AllReadyH.nil
          have JS61 := Lib.hid J60.out.swap
          rw [if_pos (by rfl)]
          refine wp_store_cel (.tmp 6) (.tmp 22) rfl g6 (celAt zs c.r) Cel.zero rfl rfl (JS61.out.at_ (List.mem_cons_self ..)).1 ?_
          intro wn61 hst61
          have J61 := Lib.hid (JS61.out.store hst61)
          clear hst61
          refine hK.out _ _ (HS.out _ J61.out.1) (fun hHeld61 => ?_)
          clear hK K
          try simp only [Act.put, List.getElem_toArray, List.getElem_cons_zero, List.getElem_cons_succ]
          refine wpAnyH_done (by kernel_rfl) ?_ _
          go_wp2_with fail
          go_meet
          case rel => exact ⟨g5, g6, rfl, rfl, Lib.hid (J61.out.swap)⟩
        refine AllReadyH.cons rfl (fun K hK => ?bp62) ?cp62
        case bp62 =>
          rw [if_pos (by rfl)]
          refine wp_alloc_cel rfl ?_
          intro g5 wn62 hg62 hw62
          have J62 : Hid (RI (w.alloc (boxC c)) wn62 ((g5, boxC Cel.zero) :: [(g6, boxC Cel.zero)])) := Lib.hid (by rw [hg62, hw62]; exact J57.out.alloc _)
          clear hg62 hw62
          refine hK.out _ _ (HS.out _ J62.out.1) (fun hHeld62 => ?_)
          clear hK K
          try simp only [Act.put, List.getElem_toArray, List.getElem_cons_zero, List.getElem_cons_succ, List.setIfInBounds_toArray, List.set_cons_zero, List.set_cons_succ]
          refine wpAnyH_ready (rs := [13]) (by kernel_rfl) (by simp) ?_
          refine AllReadyH.cons rfl (fun K hK => ?_) AllReadyH.nil
          go_simp
          refine (HC.out _ _ J62.out.1).mono ?_
          rintro e wn63 ⟨rfl, hb63⟩
          have J63 := Lib.hid (J62.out.call hb63)
          clear hb63
          try go_wp2_with fail
          refine hK.out _ _ (HS.out _ J63.out.1) (fun hHeld63 => ?_)
          clear hK K
          try simp only [Act.put, List.getElem_toArray, List.getElem_cons_zero, List.getElem_cons_succ, List.setIfInBounds_toArray, List.set_cons_zero, List.set_cons_succ]
          refine wpAnyH_ready (rs := [16]) (by kernel_rfl) (by simp) ?_
          refine AllReadyH.cons rfl (fun K hK => ?_) AllReadyH.nil
          rw [if_pos (by rfl)]
          refine wp_store_cel (.tmp 5) (.tmp 15) rfl g5 (celAt zs c.l) Cel.zero rfl rfl (J63.out.at_ (List.mem_cons_self ..)).1 ?_
          intro wn64 hst64
          have J64 := Lib.hid (J63.out.store hst64)
          clear hst64
          refine hK.out _ _ (HS.out _ J64.out.1) (fun hHeld64 => ?_)
          clear hK K
          try simp only [Act.put, List.getElem_toArray, List.getElem_cons_zero, List.getElem_cons_succ]
          refine wpAnyH_ready (rs := [17]) (by kernel_rfl) (by simp) ?_
          refine AllReadyH.cons rfl (fun K hK => ?_) AllReadyH.nil
          have JS65 := Lib.hid J64.out.swap
          rw [if_pos (by rfl)]
          refine wp_store_cel (.tmp 6) (.tmp 22) rfl g6 (celAt zs c.r) Cel.zero rfl rfl (JS65.out.at_ (List.mem_cons_self ..)).1 ?_
          intro wn65 hst65
          have J65 := Lib.hid (JS65.out.store hst65)
          clear hst65
          refine hK.out _ _ (HS.out _ J65.out.1) (fun hHeld65 => ?_)
          clear hK K
          try simp only [Act.put, List.getElem_toArray, List.getElem_cons_zero, List.getElem_cons_succ]
          refine wpAnyH_done (by kernel_rfl) ?_ _
          go_wp2_with fail
          go_meet
          case rel => exact ⟨g5, g6, rfl, rfl, Lib.hid (J65.out.swap)⟩
        exact AllReadyH.nil
      refine AllReadyH.cons rfl (fun K hK => ?bp66) ?cp66
      case bp66 =>
        rw [if_pos (by rfl)]
        refine wp_alloc_cel rfl ?_
        intro g5 wn66 hg66 hw66
        have J66 : Hid (RI (w.alloc (boxC c)) wn66 ((g5, boxC Cel.zero) :: [(g6, boxC Cel.zero)])) := Lib.hid (by rw [hg66, hw66]; exact J56.out.alloc _)
        clear hg66 hw66
        refine hK.out _ _ (HS.out _ J66.out.1) (fun hHeld66 => ?_)
        clear hK K
        try simp only [Act.put, List.getElem_toArray, List.getElem_cons_zero, List.getElem_cons_succ, List.setIfInBounds_toArray, List.set_cons_zero, List.set_cons_succ]
        refine wpAnyH_ready (rs := [6]) (by kernel_rfl) (by simp) ?_
        refine AllReadyH.cons rfl (fun K hK => ?_) AllReadyH.nil
        go_simp
        refine (HC.out _ _ J66.out.1).mono ?_
        rintro e wn67 ⟨rfl, hb67⟩
        have J67 := Lib.hid (J66.out.call hb67)
        clear hb67
        try go_wp2_with fail
        refine hK.out _ _ (HS.out _ J67.out.1) (fun hHeld67 => ?_)
        clear hK K
        try simp only [Act.put, List.getElem_toArray, List.getElem_cons_zero, List.getElem_cons_succ, List.setIfInBounds_toArray, List.set_cons_zero, List.set_cons_succ]
        refine wpAnyH_ready (rs := [13]) (by kernel_rfl) (by simp) ?_
        refine AllReadyH.cons rfl (fun K hK => ?_) AllReadyH.nil
        go_simp
        refine (HC.out _ _ J67.out.1).mono ?_
        rintro e wn68 ⟨rfl, hb68⟩
        have J68 := Lib.hid (J67.out.call hb68)
        clear hb68
        try go_wp2_with fail
        refine hK.out _ _ (HS.out _ J68.out.1) (fun hHeld68 => ?_)
        clear hK K
        try simp only [Act.put, List.getElem_toArray, List.getElem_cons_zero, List.getElem_cons_succ, List.setIfInBounds_toArray, List.set_cons_zero, List.set_cons_succ]
        refine wpAnyH_ready (rs := [16]) (by kernel_rfl) (by simp) ?_
        refine AllReadyH.cons rfl (fun K hK => ?_) AllReadyH.nil
        rw [if_pos (by rfl)]
        refine wp_store_cel (.tmp 5) (.tmp 15) rfl g5 (celAt zs c.l) Cel.zero rfl rfl (J68.out.at_ (List.mem_cons_self ..)).1 ?_
        intro wn69 hst69
        have J69 := Lib.hid (J68.out.store hst69)
        clear hst69
        refine hK.out _ _ (HS.out _ J69.out.1) (fun hHeld69 => ?_)
        clear hK K
        try simp only [Act.put, List.getElem_toArray, List.getElem_cons_zero, List.getElem_cons_succ]
        refine wpAnyH_ready (rs := [17]) (by kernel_rfl) (by simp) ?_
        refine AllReadyH.cons rfl (fun K hK => ?_) AllReadyH.nil
        have JS70 := Lib.hid J69.out.swap
        rw [if_pos (by rfl)]
        refine wp_store_cel (.tmp 6) (.tmp 22) rfl g6 (celAt zs c.r) Cel.zero rfl rfl (JS70.out.at_ (List.mem_cons_self ..)).1 ?_
        intro wn70 hst70
        have J70 := Lib.hid (JS70.out.store hst70)
        clear hst70
        refine hK.out _ _ (HS.out _ J70.out.1) (fun hHeld70 => ?_)
        clear hK K
        try simp only [Act.put, List.getElem_toArray, List.getElem_cons_zero, List.getElem_cons_succ]
        refine wpAnyH_done (by kernel_rfl) ?_ _
        go_wp2_with fail
        go_meet
        case rel => exact ⟨g5, g6, rfl, rfl, Lib.hid (J70.out.swap)⟩
      exact AllReadyH.nil
    exact AllReadyH.nil
  case rest =>
    obtain ⟨g5, g6, rfl, rfl, J⟩ := hcut
    obtain ⟨hg5, a0, a1, a2, a3, a4, a5⟩ := cellsC (J.out.at_ (g := g5) (List.mem_cons_self ..)).1
    obtain ⟨hg6, b0, b1, b2, b3, b4, b5⟩ := cellsC (J.out.at_ (g := g6) (List.mem_cons_of_mem _ (List.mem_cons_self ..))).1
    have hcb := (HI.out _ J.out.1).2
    obtain ⟨hgc, c0, c1, c2, c3, c4, c5⟩ := cellsC hcb
    obtain ⟨f0, f1, f2, f3, f4, f5⟩ := frozC hcb
    have hne5 : g5 ≠ w.heap.size := by have := (J.out.at_ (g := g5) (List.mem_cons_self ..)).2; simp at this; omega
    have hne6 : g6 ≠ w.heap.size := by have := (J.out.at_ (g := g6) (List.mem_cons_of_mem _ (List.mem_cons_self ..))).2; simp at this; omega
    clear hcb
    by_cases hm : (celAt zs c.l).h < (celAt zs c.r).h
    · have hst : Stored wc w.heap.size (boxC (sized zs c)) ((wc.setCell ⟨w.heap.size, 4, none⟩ (.int .i64 (wrap64 (wrap64 ((celAt zs c.l).s + 1) + (celAt zs c.r).s)))).setCell ⟨w.heap.size, 5, none⟩ (.int .i64 (wrap64 (1 + (celAt zs c.r).h)))) := by
        rw [show sized zs c = ⟨c.l, c.r, c.k, c.v, wrap64 (wrap64 ((celAt zs c.l).s + 1) + (celAt zs c.r).s), wrap64 (1 + (celAt zs c.r).h)⟩ by unfold sized; rw [if_pos hm]]
        exact boxC_size (HI.out _ J.out.1).2 _ _
      have HST := Lib.hid hst
      have hbb := (HI.out _ J.out.1).1
      have HB4 := Lib.hid (show BI ((wc.setCell ⟨w.heap.size, 4, none⟩ (.int .i64 (wrap64 (wrap64 ((celAt zs c.l).s + 1) + (celAt zs c.r).s)))).setCell ⟨w.heap.size, 5, none⟩ (.int .i64 (wrap64 (1 + (celAt zs c.r).h)))) B (.pointer a) o root had room zs why from ⟨(hst.2.2.2.2.2 B (by omega)).trans hbb.1, hbb.2.fr (F := fun g => g = w.heap.size) ⟨rfl, rfl, rfl, by rw [hst.2.2.2.1]; exact Nat.le_refl _, fun g _ hn => hst.2.2.2.2.2 g hn⟩ (fun g hv e => by have := H0.out.2.lt g hv; omega)⟩)
      have HBW : Hid (Below w.heap.size w ((wc.setCell ⟨w.heap.size, 4, none⟩ (.int .i64 (wrap64 (wrap64 ((celAt zs c.l).s + 1) + (celAt zs c.r).s)))).setCell ⟨w.heap.size, 5, none⟩ (.int .i64 (wrap64 (1 + (celAt zs c.r).h))))) := Lib.hid (hst.below (((Below.refl _ _).alloc (Nat.le_refl _) (boxC c)).trans (J.out.1.mono (by simp))) (Nat.le_refl _))
      have HS4 : Hid (∀ X : World, X.heap[B]? = some (bld (.pointer a) root had why) → X.heap[w.heap.size]? = some (boxC (sized zs c)) → (X.cell? ⟨B, 0, none⟩ = some (.pointer a) ∧ (X.cell? ⟨w.heap.size, 0, none⟩ = some (.int .i64 (sized zs c).l) ∧ X.cell? ⟨w.heap.size, 1, none⟩ = some (.int .i64 (sized zs c).r) ∧ X.cell? ⟨w.heap.size, 2, none⟩ = some (.int .i64 (sized zs c).k) ∧ X.cell? ⟨w.heap.size, 3, none⟩ = some (.int .i64 (sized zs c).v) ∧ X.cell? ⟨w.heap.size, 4, none⟩ = some (.int .i64 (sized zs c).s) ∧ X.cell? ⟨w.heap.size, 5, none⟩ = some (.int .i64 (sized zs c).h)))) := Lib.hid fun X h1 h2 => ⟨(bcells h1).2.1.1, (cellsC h2).2⟩
      clear hst hbb
      go_upto_region 4 with fail
      generalize ((wc.setCell ⟨w.heap.size, 4, none⟩ (.int .i64 (wrap64 (wrap64 ((celAt zs c.l).s + 1) + (celAt zs c.r).s)))).setCell ⟨w.heap.size, 5, none⟩ (.int .i64 (wrap64 (1 + (celAt zs c.r).h)))) = W4 at HB4 HBW HST ⊢
      clear a0 a1 a2 a3 a4 a5 b0 b1 b2 b3 b4 b5 c0 c1 c2 c3 c4 c5 f0 f1 f2 f3 f4 f5
      refine wp_region_held_drew (S := (fun X => X.cell? ⟨B, 0, none⟩ = some (.pointer a) ∧ (X.cell? ⟨w.heap.size, 0, none⟩ = some (.int .i64 (sized zs c).l) ∧ X.cell? ⟨w.heap.size, 1, none⟩ = some (.int .i64 (sized zs c).r) ∧ X.cell? ⟨w.heap.size, 2, none⟩ = some (.int .i64 (sized zs c).k) ∧ X.cell? ⟨w.heap.size, 3, none⟩ = some (.int .i64 (sized zs c).v) ∧ X.cell? ⟨w.heap.size, 4, none⟩ = some (.int .i64 (sized zs c).s) ∧ X.cell? ⟨w.heap.size, 5, none⟩ = some (.int .i64 (sized zs c).h)))) (by kernel_rfl) (HS4.out _ HB4.out.1 HST.out.2.2.2.2.1) (fun hHeld0 => ?_)
      refine wpAnyH_take (i := 0) (v := ?_) rfl (by kernel_rfl) (by kernel_rfl) (by kernel_rfl) (fun _ _ _ h => h) (Or.inl ⟨by rfl, ?yq1⟩) (by assumption) ?qq1
      case yq1 => (intro wz hSw; (try dsimp only at hSw); go_simp <;> with_reducible rfl)
      try simp only [Act.put, List.getElem_toArray, List.getElem_cons_zero, List.setIfInBounds_toArray, List.set_cons_zero, List.set_cons_succ]
      refine wpAnyH_take (i := 1) (v := ?_) rfl (by kernel_rfl) (by kernel_rfl) (by kernel_rfl) (fun _ _ _ h => h) (Or.inl ⟨by rfl, ?yq2⟩) (by assumption) ?qq2
      case yq2 => (intro wz hSw; (try dsimp only at hSw); go_simp <;> with_reducible rfl)
      try simp only [Act.put, List.getElem_toArray, List.getElem_cons_zero, List.getElem_cons_succ, List.setIfInBounds_toArray, List.set_cons_zero, List.set_cons_succ]
      refine wpAnyH_take (i := 2) (v := ?_) rfl (by kernel_rfl) (by kernel_rfl) (by kernel_rfl) (fun _ _ _ h => h) (Or.inl ⟨by rfl, ?yq3⟩) (by assumption) ?qq3
      case yq3 => (intro wz hSw; (try dsimp only at hSw); go_simp <;> with_reducible rfl)
      try simp only [Act.put, List.getElem_toArray, List.getElem_cons_zero, List.getElem_cons_succ, List.setIfInBounds_toArray, List.set_cons_zero, List.set_cons_succ]
      refine wpAnyH_take (i := 3) (v := ?_) rfl (by kernel_rfl) (by kernel_rfl) (by kernel_rfl) (fun _ _ _ h => h) (Or.inl ⟨by rfl, ?yq4⟩) (by assumption) ?qq4
      case yq4 => (intro wz hSw; (try dsimp only at hSw); go_simp <;> with_reducible rfl)
      try simp only [Act.put, List.getElem_toArray, List.getElem_cons_zero, List.getElem_cons_succ, List.setIfInBounds_toArray, List.set_cons_zero, List.set_cons_succ]
      refine wpAnyH_take (i := 4) (v := ?_) rfl (by kernel_rfl) (by kernel_rfl) (by kernel_rfl) (fun _ _ _ h => h) (Or.inl ⟨by rfl, ?yq5⟩) (by assumption) ?qq5
      case yq5 => (intro wz hSw; (try dsimp only at hSw); go_simp <;> with_reducible rfl)
      try simp only [Act.put, List.getElem_toArray, List.getElem_cons_zero, List.getElem_cons_succ, List.setIfInBounds_toArray, List.set_cons_zero, List.set_cons_succ]
      refine wpAnyH_take (i := 5) (v := ?_) rfl (by kernel_rfl) (by kernel_rfl) (by kernel_rfl) (fun _ _ _ h => h) (Or.inl ⟨by rfl, ?yq6⟩) (by assumption) ?qq6
      case yq6 => (intro wz hSw; (try dsimp only at hSw); go_simp <;> with_reducible rfl)
      try simp only [Act.put, List.getElem_toArray, List.getElem_cons_zero, List.getElem_cons_succ, List.setIfInBounds_toArray, List.set_cons_zero, List.set_cons_succ]
      refine wpAnyH_ready (rs := [6]) (by kernel_rfl) (by simp) ?_
      refine AllReadyH.cons rfl (fun K hK => ?_) AllReadyH.nil
      go_simp
      refine (HP.out _ (HB4.out.below (Below.refl _ _).drew).2).mono ?_
      intro e w5 hs
      obtain ⟨rfl, o5, hA5, hM5, hF5⟩ := hs
      have HB5 := Lib.hid (show BI w5 B (.pointer a) o5 root had room zs2 why from ⟨(hF5.block (heap_lt HB4.out.1) HB4.out.nv).trans HB4.out.1, hA5⟩)
      have hc5 : w5.heap[w.heap.size]? = some (boxC (sized zs c)) := (hF5.block (heap_lt HST.out.2.2.2.2.1) (fun k => Nat.lt_irrefl _ (H0.out.2.lt _ k))).trans HST.out.2.2.2.2.1
      have HE5 := Lib.hid (And.intro hM5 hF5)
      clear hA5 hM5 hF5
      try go_wp2_with fail
      refine hK.out _ _ (HS4.out _ HB5.out.1 hc5) (fun hHeld7 => ?_)
      clear hK K
      try simp only [Act.put, List.getElem_toArray, List.getElem_cons_zero, List.getElem_cons_succ, List.setIfInBounds_toArray, List.set_cons_zero, List.set_cons_succ]
      refine wpAnyH_take (i := 7) (v := ?_) rfl (by kernel_rfl) (by kernel_rfl) (by kernel_rfl) (fun _ _ _ h => h) (Or.inl ⟨by rfl, ?yq8⟩) (by assumption) ?qq8
      case yq8 => (intro wz hSw; (try dsimp only at hSw); go_simp <;> with_reducible rfl)
      try simp only [Act.put, List.getElem_toArray, List.getElem_cons_zero, List.getElem_cons_succ, List.setIfInBounds_toArray, List.set_cons_zero, List.set_cons_succ]
      refine wpAnyH_take (i := 8) (v := ?_) rfl (by kernel_rfl) (by kernel_rfl) (by kernel_rfl) (fun _ _ _ h => h) (Or.inl ⟨by rfl, ?yq9⟩) (by assumption) ?qq9
      case yq9 => (intro wz hSw; (try dsimp only at hSw); go_simp <;> with_reducible rfl)
      try simp only [Act.put, List.getElem_toArray, List.getElem_cons_zero, List.getElem_cons_succ, List.setIfInBounds_toArray, List.set_cons_zero, List.set_cons_succ]
      refine wpAnyH_take (i := 9) (v := ?_) rfl (by kernel_rfl) (by kernel_rfl) (by kernel_rfl) (fun _ _ _ h => h) (Or.inl ⟨by rfl, ?yq10⟩) (by assumption) ?qq10
      case yq10 => (intro wz hSw; (try dsimp only at hSw); go_simp <;> with_reducible rfl)
      try simp only [Act.put, List.getElem_toArray, List.getElem_cons_zero, List.getElem_cons_succ, List.setIfInBounds_toArray, List.set_cons_zero, List.set_cons_succ]
      refine wpAnyH_take (i := 10) (v := ?_) rfl (by kernel_rfl) (by kernel_rfl) (by kernel_rfl) (fun _ _ _ h => h) (Or.inl ⟨by rfl, ?yq11⟩) (by assumption) ?qq11
      case yq11 => (intro wz hSw; (try dsimp only at hSw); go_simp <;> with_reducible rfl)
      try simp only [Act.put, List.getElem_toArray, List.getElem_cons_zero, List.getElem_cons_succ, List.setIfInBounds_toArray, List.set_cons_zero, List.set_cons_succ]
      refine wpAnyH_take (i := 11) (v := ?_) rfl (by kernel_rfl) (by kernel_rfl) (by kernel_rfl) (fun _ _ _ h => h) (Or.inl ⟨by rfl, ?yq12⟩) (by assumption) ?qq12
      case yq12 => (intro wz hSw; (try dsimp only at hSw); go_simp <;> with_reducible rfl)
      try simp only [Act.put, List.getElem_toArray, List.getElem_cons_zero, List.getElem_cons_succ, List.setIfInBounds_toArray, List.set_cons_zero, List.set_cons_succ]
      refine wpAnyH_done (by kernel_rfl) ?_ _
      rcases HY.out with ⟨rfl, rfl⟩ | ⟨rfl, rfl⟩
      · go_wp2_with fail
        go_ret
        exact ⟨rfl, o5, HB5.out, HE5.out.1.lower HBW.out.size, (Fr.of_below HBW.out).trans (HE5.out.2.mono fun g hg => .inr hg) (fun g _ k => k)⟩
      · obtain ⟨hgB, _, ⟨_, cB3⟩, fB3⟩ := bcells HB5.out.1
        have HB6 := Lib.hid (HB5.out.setwhy 2)
        go_wp2_with fail
        go_ret
        exact ⟨rfl, o5, HB6.out.1, HE5.out.1.lower HBW.out.size, ((Fr.of_below HBW.out).trans (HE5.out.2.mono fun g hg => .inr hg) (fun g _ k => k)).trans HB6.out.2 (fun g _ k => .inl k)⟩
    · have hm2 : (celAt zs c.r).h ≤ (celAt zs c.l).h := by omega
      have hst : Stored wc w.heap.size (boxC (sized zs c)) ((wc.setCell ⟨w.heap.size, 4, none⟩ (.int .i64 (wrap64 (wrap64 ((celAt zs c.l).s + 1) + (celAt zs c.r).s)))).setCell ⟨w.heap.size, 5, none⟩ (.int .i64 (wrap64 (1 + (celAt zs c.l).h)))) := by
        rw [show sized zs c = ⟨c.l, c.r, c.k, c.v, wrap64 (wrap64 ((celAt zs c.l).s + 1) + (celAt zs c.r).s), wrap64 (1 + (celAt zs c.l).h)⟩ by unfold sized; rw [if_neg hm]]
        exact boxC_size (HI.out _ J.out.1).2 _ _
      have HST := Lib.hid hst
      have hbb := (HI.out _ J.out.1).1
      have HB4 := Lib.hid (show BI ((wc.setCell ⟨w.heap.size, 4, none⟩ (.int .i64 (wrap64 (wrap64 ((celAt zs c.l).s + 1) + (celAt zs c.r).s)))).setCell ⟨w.heap.size, 5, none⟩ (.int .i64 (wrap64 (1 + (celAt zs c.l).h)))) B (.pointer a) o root had room zs why from ⟨(hst.2.2.2.2.2 B (by omega)).trans hbb.1, hbb.2.fr (F := fun g => g = w.heap.size) ⟨rfl, rfl, rfl, by rw [hst.2.2.2.1]; exact Nat.le_refl _, fun g _ hn => hst.2.2.2.2.2 g hn⟩ (fun g hv e => by have := H0.out.2.lt g hv; omega)⟩)
      have HBW : Hid (Below w.heap.size w ((wc.setCell ⟨w.heap.size, 4, none⟩ (.int .i64 (wrap64 (wrap64 ((celAt zs c.l).s + 1) + (celAt zs c.r).s)))).setCell ⟨w.heap.size, 5, none⟩ (.int .i64 (wrap64 (1 + (celAt zs c.l).h))))) := Lib.hid (hst.below (((Below.refl _ _).alloc (Nat.le_refl _) (boxC c)).trans (J.out.1.mono (by simp))) (Nat.le_refl _))
      have HS4 : Hid (∀ X : World, X.heap[B]? = some (bld (.pointer a) root had why) → X.heap[w.heap.size]? = some (boxC (sized zs c)) → (X.cell? ⟨B, 0, none⟩ = some (.pointer a) ∧ (X.cell? ⟨w.heap.size, 0, none⟩ = some (.int .i64 (sized zs c).l) ∧ X.cell? ⟨w.heap.size, 1, none⟩ = some (.int .i64 (sized zs c).r) ∧ X.cell? ⟨w.heap.size, 2, none⟩ = some (.int .i64 (sized zs c).k) ∧ X.cell? ⟨w.heap.size, 3, none⟩ = some (.int .i64 (sized zs c).v) ∧ X.cell? ⟨w.heap.size, 4, none⟩ = some (.int .i64 (sized zs c).s) ∧ X.cell? ⟨w.heap.size, 5, none⟩ = some (.int .i64 (sized zs c).h)))) := Lib.hid fun X h1 h2 => ⟨(bcells h1).2.1.1, (cellsC h2).2⟩
      clear hst hbb
      go_upto_region 4 with fail
      generalize ((wc.setCell ⟨w.heap.size, 4, none⟩ (.int .i64 (wrap64 (wrap64 ((celAt zs c.l).s + 1) + (celAt zs c.r).s)))).setCell ⟨w.heap.size, 5, none⟩ (.int .i64 (wrap64 (1 + (celAt zs c.l).h)))) = W4 at HB4 HBW HST ⊢
      clear a0 a1 a2 a3 a4 a5 b0 b1 b2 b3 b4 b5 c0 c1 c2 c3 c4 c5 f0 f1 f2 f3 f4 f5
      refine wp_region_held_drew (S := (fun X => X.cell? ⟨B, 0, none⟩ = some (.pointer a) ∧ (X.cell? ⟨w.heap.size, 0, none⟩ = some (.int .i64 (sized zs c).l) ∧ X.cell? ⟨w.heap.size, 1, none⟩ = some (.int .i64 (sized zs c).r) ∧ X.cell? ⟨w.heap.size, 2, none⟩ = some (.int .i64 (sized zs c).k) ∧ X.cell? ⟨w.heap.size, 3, none⟩ = some (.int .i64 (sized zs c).v) ∧ X.cell? ⟨w.heap.size, 4, none⟩ = some (.int .i64 (sized zs c).s) ∧ X.cell? ⟨w.heap.size, 5, none⟩ = some (.int .i64 (sized zs c).h)))) (by kernel_rfl) (HS4.out _ HB4.out.1 HST.out.2.2.2.2.1) (fun hHeld0 => ?_)
      refine wpAnyH_take (i := 0) (v := ?_) rfl (by kernel_rfl) (by kernel_rfl) (by kernel_rfl) (fun _ _ _ h => h) (Or.inl ⟨by rfl, ?ys1⟩) (by assumption) ?qs1
      case ys1 => (intro wz hSw; (try dsimp only at hSw); go_simp <;> with_reducible rfl)
      try simp only [Act.put, List.getElem_toArray, List.getElem_cons_zero, List.setIfInBounds_toArray, List.set_cons_zero, List.set_cons_succ]
      refine wpAnyH_take (i := 1) (v := ?_) rfl (by kernel_rfl) (by kernel_rfl) (by kernel_rfl) (fun _ _ _ h => h) (Or.inl ⟨by rfl, ?ys2⟩) (by assumption) ?qs2
      case ys2 => (intro wz hSw; (try dsimp only at hSw); go_simp <;> with_reducible rfl)
      try simp only [Act.put, List.getElem_toArray, List.getElem_cons_zero, List.getElem_cons_succ, List.setIfInBounds_toArray, List.set_cons_zero, List.set_cons_succ]
      refine wpAnyH_take (i := 2) (v := ?_) rfl (by kernel_rfl) (by kernel_rfl) (by kernel_rfl) (fun _ _ _ h => h) (Or.inl ⟨by rfl, ?ys3⟩) (by assumption) ?qs3
      case ys3 => (intro wz hSw; (try dsimp only at hSw); go_simp <;> with_reducible rfl)
      try simp only [Act.put, List.getElem_toArray, List.getElem_cons_zero, List.getElem_cons_succ, List.setIfInBounds_toArray, List.set_cons_zero, List.set_cons_succ]
      refine wpAnyH_take (i := 3) (v := ?_) rfl (by kernel_rfl) (by kernel_rfl) (by kernel_rfl) (fun _ _ _ h => h) (Or.inl ⟨by rfl, ?ys4⟩) (by assumption) ?qs4
      case ys4 => (intro wz hSw; (try dsimp only at hSw); go_simp <;> with_reducible rfl)
      try simp only [Act.put, List.getElem_toArray, List.getElem_cons_zero, List.getElem_cons_succ, List.setIfInBounds_toArray, List.set_cons_zero, List.set_cons_succ]
      refine wpAnyH_take (i := 4) (v := ?_) rfl (by kernel_rfl) (by kernel_rfl) (by kernel_rfl) (fun _ _ _ h => h) (Or.inl ⟨by rfl, ?ys5⟩) (by assumption) ?qs5
      case ys5 => (intro wz hSw; (try dsimp only at hSw); go_simp <;> with_reducible rfl)
      try simp only [Act.put, List.getElem_toArray, List.getElem_cons_zero, List.getElem_cons_succ, List.setIfInBounds_toArray, List.set_cons_zero, List.set_cons_succ]
      refine wpAnyH_take (i := 5) (v := ?_) rfl (by kernel_rfl) (by kernel_rfl) (by kernel_rfl) (fun _ _ _ h => h) (Or.inl ⟨by rfl, ?ys6⟩) (by assumption) ?qs6
      case ys6 => (intro wz hSw; (try dsimp only at hSw); go_simp <;> with_reducible rfl)
      try simp only [Act.put, List.getElem_toArray, List.getElem_cons_zero, List.getElem_cons_succ, List.setIfInBounds_toArray, List.set_cons_zero, List.set_cons_succ]
      refine wpAnyH_ready (rs := [6]) (by kernel_rfl) (by simp) ?_
      refine AllReadyH.cons rfl (fun K hK => ?_) AllReadyH.nil
      go_simp
      refine (HP.out _ (HB4.out.below (Below.refl _ _).drew).2).mono ?_
      intro e w5 hs
      obtain ⟨rfl, o5, hA5, hM5, hF5⟩ := hs
      have HB5 := Lib.hid (show BI w5 B (.pointer a) o5 root had room zs2 why from ⟨(hF5.block (heap_lt HB4.out.1) HB4.out.nv).trans HB4.out.1, hA5⟩)
      have hc5 : w5.heap[w.heap.size]? = some (boxC (sized zs c)) := (hF5.block (heap_lt HST.out.2.2.2.2.1) (fun k => Nat.lt_irrefl _ (H0.out.2.lt _ k))).trans HST.out.2.2.2.2.1
      have HE5 := Lib.hid (And.intro hM5 hF5)
      clear hA5 hM5 hF5
      try go_wp2_with fail
      refine hK.out _ _ (HS4.out _ HB5.out.1 hc5) (fun hHeld7 => ?_)
      clear hK K
      try simp only [Act.put, List.getElem_toArray, List.getElem_cons_zero, List.getElem_cons_succ, List.setIfInBounds_toArray, List.set_cons_zero, List.set_cons_succ]
      refine wpAnyH_take (i := 7) (v := ?_) rfl (by kernel_rfl) (by kernel_rfl) (by kernel_rfl) (fun _ _ _ h => h) (Or.inl ⟨by rfl, ?ys8⟩) (by assumption) ?qs8
      case ys8 => (intro wz hSw; (try dsimp only at hSw); go_simp <;> with_reducible rfl)
      try simp only [Act.put, List.getElem_toArray, List.getElem_cons_zero, List.getElem_cons_succ, List.setIfInBounds_toArray, List.set_cons_zero, List.set_cons_succ]
      refine wpAnyH_take (i := 8) (v := ?_) rfl (by kernel_rfl) (by kernel_rfl) (by kernel_rfl) (fun _ _ _ h => h) (Or.inl ⟨by rfl, ?ys9⟩) (by assumption) ?qs9
      case ys9 => (intro wz hSw; (try dsimp only at hSw); go_simp <;> with_reducible rfl)
      try simp only [Act.put, List.getElem_toArray, List.getElem_cons_zero, List.getElem_cons_succ, List.setIfInBounds_toArray, List.set_cons_zero, List.set_cons_succ]
      refine wpAnyH_take (i := 9) (v := ?_) rfl (by kernel_rfl) (by kernel_rfl) (by kernel_rfl) (fun _ _ _ h => h) (Or.inl ⟨by rfl, ?ys10⟩) (by assumption) ?qs10
      case ys10 => (intro wz hSw; (try dsimp only at hSw); go_simp <;> with_reducible rfl)
      try simp only [Act.put, List.getElem_toArray, List.getElem_cons_zero, List.getElem_cons_succ, List.setIfInBounds_toArray, List.set_cons_zero, List.set_cons_succ]
      refine wpAnyH_take (i := 10) (v := ?_) rfl (by kernel_rfl) (by kernel_rfl) (by kernel_rfl) (fun _ _ _ h => h) (Or.inl ⟨by rfl, ?ys11⟩) (by assumption) ?qs11
      case ys11 => (intro wz hSw; (try dsimp only at hSw); go_simp <;> with_reducible rfl)
      try simp only [Act.put, List.getElem_toArray, List.getElem_cons_zero, List.getElem_cons_succ, List.setIfInBounds_toArray, List.set_cons_zero, List.set_cons_succ]
      refine wpAnyH_take (i := 11) (v := ?_) rfl (by kernel_rfl) (by kernel_rfl) (by kernel_rfl) (fun _ _ _ h => h) (Or.inl ⟨by rfl, ?ys12⟩) (by assumption) ?qs12
      case ys12 => (intro wz hSw; (try dsimp only at hSw); go_simp <;> with_reducible rfl)
      try simp only [Act.put, List.getElem_toArray, List.getElem_cons_zero, List.getElem_cons_succ, List.setIfInBounds_toArray, List.set_cons_zero, List.set_cons_succ]
      refine wpAnyH_done (by kernel_rfl) ?_ _
      rcases HY.out with ⟨rfl, rfl⟩ | ⟨rfl, rfl⟩
      · go_wp2_with fail
        go_ret
        exact ⟨rfl, o5, HB5.out, HE5.out.1.lower HBW.out.size, (Fr.of_below HBW.out).trans (HE5.out.2.mono fun g hg => .inr hg) (fun g _ k => k)⟩
      · obtain ⟨hgB, _, ⟨_, cB3⟩, fB3⟩ := bcells HB5.out.1
        have HB6 := Lib.hid (HB5.out.setwhy 2)
        go_wp2_with fail
        go_ret
        exact ⟨rfl, o5, HB6.out.1, HE5.out.1.lower HBW.out.size, ((Fr.of_below HBW.out).trans (HE5.out.2.mono fun g hg => .inr hg) (fun g _ k => k)).trans HB6.out.2 (fun g _ k => .inl k)⟩
end Go.Proofs.Ytpbkclciipmonaa.F
