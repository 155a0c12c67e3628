/-
  Contract of the builder's turnRight. Not a statement of the seat.
-/
import Derived.Test.YtpbkclciipmonaaHead3
import Derived.Test.YtpbkclciipmonaaPmPut
import Derived.Deep.Cut
import Derived.Deep.CutRange
import Derived.Deep.DeepCutAuto
import Derived.Deep.RegionHeld3
namespace Go.Proofs.Ytpbkclciipmonaa.F
open Go.ChangeShapes Go.WideShapes Go.ChangeAt Go.RowKit Base
set_option maxHeartbeats 8000000 in
set_option maxRecDepth 100000 in
theorem bturnR_a {w : World} {B : Nat} {pv : Value} {o : Option Nat} {root had : Int} {room : Nat} {zs : List Cel} {why : Int} (c : Cel) (h : BI w B pv o root had room zs why) (hc : fitC c zs.length) (hok : c.ok) (hcd : (celAt zs (celAt zs c.l).r).h ≤ (celAt zs (celAt zs c.l).l).h) :
    Calls Try.prog 92 #[.pointer (some ⟨B, 0, none⟩), .agg #[.int .i64 c.l, .int .i64 c.r, .int .i64 c.k, .int .i64 c.v, .int .i64 c.s, .int .i64 c.h]] w (BP B pv o root had room (turnRM room zs why c).1 (turnRM room zs why c).2.1 (.int .i64 (turnRM room zs why c).2.2) w) := by
  obtain ⟨a, rfl⟩ : ∃ a, pv = .pointer a := by
    rcases h.2 with ⟨rfl, _⟩ | ⟨b, rfl, _⟩
    · exact ⟨_, rfl⟩
    · exact ⟨_, rfl⟩
  have hbk := h.2.bk
  have hle := h.2.le
  have hoks := h.2.oks
  have hlf := celAt_fit hbk c.l
  have hlo := celAt_ok hoks c.l
  have hmf := celAt_fit hbk ((celAt zs c.l).r)
  have hmo := celAt_ok hoks ((celAt zs c.l).r)
  have hol := celAt_ok hoks ((celAt zs c.l).l)
  unfold turnRM
  rw [if_pos hcd]
  have hp1 := putM_le room zs why ⟨(celAt zs c.l).r, c.r, c.k, c.v, c.s, c.h⟩
  have hq1 := putM_le2 room zs why ⟨(celAt zs c.l).r, c.r, c.k, c.v, c.s, c.h⟩
  have B1 : Hid (∀ (X : World) (o : Option Nat), BI X B (.pointer a) o root had room zs why → Calls Try.prog 80 #[.pointer (some ⟨B, 0, none⟩), .agg #[.int .i64 (celAt zs c.l).r, .int .i64 c.r, .int .i64 c.k, .int .i64 c.v, .int .i64 c.s, .int .i64 c.h]] X (BP B (.pointer a) o root had room (putM room zs why ⟨(celAt zs c.l).r, c.r, c.k, c.v, c.s, c.h⟩).1 (putM room zs why ⟨(celAt zs c.l).r, c.r, c.k, c.v, c.s, c.h⟩).2.1 (.int .i64 (putM room zs why ⟨(celAt zs c.l).r, c.r, c.k, c.v, c.s, c.h⟩).2.2) X)) := Lib.hid fun X o h => bput ⟨(celAt zs c.l).r, c.r, c.k, c.v, c.s, c.h⟩ h (by unfold fitC at *; simp only at *; omega) (by unfold Cel.ok at *; simp only at *; omega)
  generalize putM room zs why ⟨(celAt zs c.l).r, c.r, c.k, c.v, c.s, c.h⟩ = q1 at hp1 hq1 B1 ⊢
  obtain ⟨zs1, why1, i1⟩ := q1
  simp only at hp1 hq1 B1 ⊢
  have hp2 := putM_le room zs1 why1 ⟨(celAt zs c.l).l, i1, (celAt zs c.l).k, (celAt zs c.l).v, (celAt zs c.l).s, (celAt zs c.l).h⟩
  have hq2 := putM_le2 room zs1 why1 ⟨(celAt zs c.l).l, i1, (celAt zs c.l).k, (celAt zs c.l).v, (celAt zs c.l).s, (celAt zs c.l).h⟩
  have B2 : Hid (∀ (X : World) (o : Option Nat), BI X B (.pointer a) o root had room zs1 why1 → Calls Try.prog 80 #[.pointer (some ⟨B, 0, none⟩), .agg #[.int .i64 (celAt zs c.l).l, .int .i64 i1, .int .i64 (celAt zs c.l).k, .int .i64 (celAt zs c.l).v, .int .i64 (celAt zs c.l).s, .int .i64 (celAt zs c.l).h]] X (BP B (.pointer a) o root had room (putM room zs1 why1 ⟨(celAt zs c.l).l, i1, (celAt zs c.l).k, (celAt zs c.l).v, (celAt zs c.l).s, (celAt zs c.l).h⟩).1 (putM room zs1 why1 ⟨(celAt zs c.l).l, i1, (celAt zs c.l).k, (celAt zs c.l).v, (celAt zs c.l).s, (celAt zs c.l).h⟩).2.1 (.int .i64 (putM room zs1 why1 ⟨(celAt zs c.l).l, i1, (celAt zs c.l).k, (celAt zs c.l).v, (celAt zs c.l).s, (celAt zs c.l).h⟩).2.2) X)) := Lib.hid fun X o h => bput ⟨(celAt zs c.l).l, i1, (celAt zs c.l).k, (celAt zs c.l).v, (celAt zs c.l).s, (celAt zs c.l).h⟩ h (by unfold fitC at *; simp only at *; omega) (by unfold Cel.ok at *; simp only at *; omega)
  generalize putM room zs1 why1 ⟨(celAt zs c.l).l, i1, (celAt zs c.l).k, (celAt zs c.l).v, (celAt zs c.l).s, (celAt zs c.l).h⟩ = q2 at hp2 hq2 B2 ⊢
  obtain ⟨zs2, why2, i2⟩ := q2
  simp only at hp2 hq2 B2 ⊢
  have J0 : Hid (BS B (.pointer a) root had room w o (w.alloc (boxC ⟨c.l, c.r, c.k, c.v, c.s, c.h⟩)) o zs why [(w.heap.size, boxC ⟨c.l, c.r, c.k, c.v, c.s, c.h⟩)]) := Lib.hid ((BS.start h).alloc (boxC c))
  have hcd2 : (celAt zs (celAt zs c.l).l).h ≥ (celAt zs (celAt zs c.l).r).h := by omega
  clear h hc hok hbk hle hoks hlf hlo hmf hmo hol hcd hp1 hq1 hp2 hq2
  go_enter Try.func92, Try.ntmps92
  go_upto_region 1 with fail
  go_cut [5] (fun s5 wx => ∃ g5, s5 = .pointer (some ⟨g5, 0, none⟩) ∧ Hid (BS B (.pointer a) root had room w o wx o zs why [(g5, boxC ⟨(celAt zs c.l).l, (celAt zs c.l).r, (celAt zs c.l).k, (celAt zs c.l).v, (celAt zs c.l).s, (celAt zs c.l).h⟩), (w.heap.size, boxC ⟨c.l, c.r, c.k, c.v, c.s, c.h⟩)]))
  case first =>
    have JD1 := Lib.hid J0.out.drew
    refine wp_region_held_drew (S := (fun X => (X.cell? ⟨B, 0, none⟩ = some (.pointer a) ∧ X.cell? ⟨B, 1, none⟩ = some (.int .i64 root)) ∧ (X.cell? ⟨w.heap.size, 0, none⟩ = some (.int .i64 c.l) ∧ X.cell? ⟨w.heap.size, 1, none⟩ = some (.int .i64 c.r) ∧ X.cell? ⟨w.heap.size, 2, none⟩ = some (.int .i64 c.k) ∧ X.cell? ⟨w.heap.size, 3, none⟩ = some (.int .i64 c.v) ∧ X.cell? ⟨w.heap.size, 4, none⟩ = some (.int .i64 c.s) ∧ X.cell? ⟨w.heap.size, 5, none⟩ = some (.int .i64 c.h)))) (by kernel_rfl) (⟨JD1.out.scells, JD1.out.box (List.mem_cons_self ..)⟩) (fun hHeld0 => ?_)
    refine wpAnyH_take (i := 0) (v := ?_) rfl (by kernel_rfl) (by kernel_rfl) (by kernel_rfl) (fun _ _ _ h => h) (Or.inl ⟨by rfl, ?ybturnR_ax1⟩) (by assumption) ?qbturnR_ax1
    case ybturnR_ax1 => (intro wz hSw; (try dsimp only at hSw); go_simp <;> with_reducible rfl)
    try simp only [Act.put, List.getElem_toArray, List.getElem_cons_zero, List.setIfInBounds_toArray, List.set_cons_zero, List.set_cons_succ]
    refine wpAnyH_take (i := 1) (v := ?_) rfl (by kernel_rfl) (by kernel_rfl) (by kernel_rfl) (fun _ _ _ h => h) (Or.inl ⟨by rfl, ?ybturnR_ax2⟩) (by assumption) ?qbturnR_ax2
    case ybturnR_ax2 => (intro wz hSw; (try dsimp only at hSw); go_simp <;> with_reducible rfl)
    try simp only [Act.put, List.getElem_toArray, List.getElem_cons_zero, List.getElem_cons_succ, List.setIfInBounds_toArray, List.set_cons_zero, List.set_cons_succ]
    refine wpAnyH_take (i := 2) (v := ?_) rfl (by kernel_rfl) (by kernel_rfl) (by kernel_rfl) (fun _ _ _ h => h) (Or.inl ⟨by rfl, ?ybturnR_ax3⟩) (by assumption) ?qbturnR_ax3
    case ybturnR_ax3 => (intro wz hSw; (try dsimp only at hSw); go_simp <;> with_reducible rfl)
    try simp only [Act.put, List.getElem_toArray, List.getElem_cons_zero, List.getElem_cons_succ, List.setIfInBounds_toArray, List.set_cons_zero, List.set_cons_succ]
    refine wpAnyH_take (i := 3) (v := ?_) rfl (by kernel_rfl) (by kernel_rfl) (by kernel_rfl) (fun _ _ _ h => h) (Or.inl ⟨by rfl, ?ybturnR_ax4⟩) (by assumption) ?qbturnR_ax4
    case ybturnR_ax4 => (intro wz hSw; (try dsimp only at hSw); go_simp <;> with_reducible rfl)
    try simp only [Act.put, List.getElem_toArray, List.getElem_cons_zero, List.getElem_cons_succ, List.setIfInBounds_toArray, List.set_cons_zero, List.set_cons_succ]
    refine wpAnyH_take (i := 4) (v := ?_) rfl (by kernel_rfl) (by kernel_rfl) (by kernel_rfl) (fun _ _ _ h => h) (Or.inl ⟨by rfl, ?ybturnR_ax5⟩) (by assumption) ?qbturnR_ax5
    case ybturnR_ax5 => (intro wz hSw; (try dsimp only at hSw); go_simp <;> with_reducible rfl)
    try simp only [Act.put, List.getElem_toArray, List.getElem_cons_zero, List.getElem_cons_succ, List.setIfInBounds_toArray, List.set_cons_zero, List.set_cons_succ]
    refine wpAnyH_take (i := 5) (v := ?_) rfl (by kernel_rfl) (by kernel_rfl) (by kernel_rfl) (fun _ _ _ h => h) (Or.inl ⟨by rfl, ?ybturnR_ax6⟩) (by assumption) ?qbturnR_ax6
    case ybturnR_ax6 => (intro wz hSw; (try dsimp only at hSw); go_simp <;> with_reducible rfl)
    try simp only [Act.put, List.getElem_toArray, List.getElem_cons_zero, List.getElem_cons_succ, List.setIfInBounds_toArray, List.set_cons_zero, List.set_cons_succ]
    refine wpAnyH_ready (rs := [6, 7]) (by kernel_rfl) (by simp) ?_
    refine AllReadyH.cons rfl (fun K hK => ?bbturnR_ax7) ?cbturnR_ax7
    case bbturnR_ax7 =>
      go_simp
      refine (pmcell root (c.l) JD1.out.bi.2).mono ?_
      rintro e wn2 ⟨rfl, hbn2⟩
      have Jn2 := Lib.hid (JD1.out.below hbn2)
      clear hbn2
      try go_wp2_with fail
      refine hK.out _ _ (⟨Jn2.out.scells, Jn2.out.box (List.mem_cons_self ..)⟩) (fun hHeld7 => ?_)
      clear hK K
      try simp only [Act.put, List.getElem_toArray, List.getElem_cons_zero, List.getElem_cons_succ, List.setIfInBounds_toArray, List.set_cons_zero, List.set_cons_succ]
      refine wpAnyH_ready (rs := [7]) (by kernel_rfl) (by simp) ?_
      refine AllReadyH.cons rfl (fun K hK => ?_) AllReadyH.nil
      rw [if_pos (by rfl)]
      refine wp_alloc_cel rfl ?_
      intro g5 wn3 hgn3 hwn3
      have Jn3 : Hid (BS B (.pointer a) root had room w o wn3 o zs why [(g5, boxC ⟨0, 0, 0, 0, 0, 0⟩), (w.heap.size, boxC ⟨c.l, c.r, c.k, c.v, c.s, c.h⟩)]) := Lib.hid (by rw [hgn3, hwn3]; exact Jn2.out.alloc (boxC Cel.zero))
      clear hgn3 hwn3
      refine hK.out _ _ (⟨Jn3.out.scells, Jn3.out.box (List.mem_cons_of_mem _ (List.mem_cons_self ..))⟩) (fun hHeld8 => ?_)
      clear hK K
      try simp only [Act.put, List.getElem_toArray, List.getElem_cons_zero, List.getElem_cons_succ, List.setIfInBounds_toArray, List.set_cons_zero, List.set_cons_succ]
      refine wpAnyH_ready (rs := [8]) (by kernel_rfl) (by simp) ?_
      refine AllReadyH.cons rfl (fun K hK => ?_) AllReadyH.nil
      rw [if_pos (by rfl)]
      refine wp_store_cel (.tmp 5) (.tmp 13) rfl g5 (⟨(celAt zs c.l).l, (celAt zs c.l).r, (celAt zs c.l).k, (celAt zs c.l).v, (celAt zs c.l).s, (celAt zs c.l).h⟩) ⟨0, 0, 0, 0, 0, 0⟩ rfl rfl (Jn3.out.at_ (List.mem_cons_self ..)) ?_
      intro wn4 hstn4
      have Jn4 : Hid (BS B (.pointer a) root had room w o wn4 o zs why [(g5, boxC ⟨(celAt zs c.l).l, (celAt zs c.l).r, (celAt zs c.l).k, (celAt zs c.l).v, (celAt zs c.l).s, (celAt zs c.l).h⟩), (w.heap.size, boxC ⟨c.l, c.r, c.k, c.v, c.s, c.h⟩)]) := Lib.hid (Jn3.out.store hstn4)
      clear hstn4
      refine hK.out _ _ (⟨Jn4.out.scells, Jn4.out.box (List.mem_cons_of_mem _ (List.mem_cons_self ..))⟩) (fun hHeld9 => ?_)
      clear hK K
      try simp only [Act.put, List.getElem_toArray, List.getElem_cons_zero, List.getElem_cons_succ]
      refine wpAnyH_done (by kernel_rfl) ?_ _
      go_wp2_with fail
      go_meet
      case rel => exact ⟨g5, rfl, Jn4⟩
    refine AllReadyH.cons rfl (fun K hK => ?bbturnR_ax10) ?cbturnR_ax10
    case bbturnR_ax10 =>
      rw [if_pos (by rfl)]
      refine wp_alloc_cel rfl ?_
      intro g5 wn5 hgn5 hwn5
      have Jn5 : Hid (BS B (.pointer a) root had room w o wn5 o zs why [(g5, boxC ⟨0, 0, 0, 0, 0, 0⟩), (w.heap.size, boxC ⟨c.l, c.r, c.k, c.v, c.s, c.h⟩)]) := Lib.hid (by rw [hgn5, hwn5]; exact JD1.out.alloc (boxC Cel.zero))
      clear hgn5 hwn5
      refine hK.out _ _ (⟨Jn5.out.scells, Jn5.out.box (List.mem_cons_of_mem _ (List.mem_cons_self ..))⟩) (fun hHeld10 => ?_)
      clear hK K
      try simp only [Act.put, List.getElem_toArray, List.getElem_cons_zero, List.getElem_cons_succ, List.setIfInBounds_toArray, List.set_cons_zero, List.set_cons_succ]
      refine wpAnyH_ready (rs := [6]) (by kernel_rfl) (by simp) ?_
      refine AllReadyH.cons rfl (fun K hK => ?_) AllReadyH.nil
      go_simp
      refine (pmcell root (c.l) Jn5.out.bi.2).mono ?_
      rintro e wn6 ⟨rfl, hbn6⟩
      have Jn6 := Lib.hid (Jn5.out.below hbn6)
      clear hbn6
      try go_wp2_with fail
      refine hK.out _ _ (⟨Jn6.out.scells, Jn6.out.box (List.mem_cons_of_mem _ (List.mem_cons_self ..))⟩) (fun hHeld11 => ?_)
      clear hK K
      try simp only [Act.put, List.getElem_toArray, List.getElem_cons_zero, List.getElem_cons_succ, List.setIfInBounds_toArray, List.set_cons_zero, List.set_cons_succ]
      refine wpAnyH_ready (rs := [8]) (by kernel_rfl) (by simp) ?_
      refine AllReadyH.cons rfl (fun K hK => ?_) AllReadyH.nil
      rw [if_pos (by rfl)]
      refine wp_store_cel (.tmp 5) (.tmp 13) rfl g5 (⟨(celAt zs c.l).l, (celAt zs c.l).r, (celAt zs c.l).k, (celAt zs c.l).v, (celAt zs c.l).s, (celAt zs c.l).h⟩) ⟨0, 0, 0, 0, 0, 0⟩ rfl rfl (Jn6.out.at_ (List.mem_cons_self ..)) ?_
      intro wn7 hstn7
      have Jn7 : Hid (BS B (.pointer a) root had room w o wn7 o zs why [(g5, boxC ⟨(celAt zs c.l).l, (celAt zs c.l).r, (celAt zs c.l).k, (celAt zs c.l).v, (celAt zs c.l).s, (celAt zs c.l).h⟩), (w.heap.size, boxC ⟨c.l, c.r, c.k, c.v, c.s, c.h⟩)]) := Lib.hid (Jn6.out.store hstn7)
      clear hstn7
      refine hK.out _ _ (⟨Jn7.out.scells, Jn7.out.box (List.mem_cons_of_mem _ (List.mem_cons_self ..))⟩) (fun hHeld12 => ?_)
      clear hK K
      try simp only [Act.put, List.getElem_toArray, List.getElem_cons_zero, List.getElem_cons_succ]
      refine wpAnyH_done (by kernel_rfl) ?_ _
      go_wp2_with fail
      go_meet
      case rel => exact ⟨g5, rfl, Jn7⟩
    exact AllReadyH.nil
  case rest =>
  obtain ⟨g5, rfl, JCg5⟩ := hcut
  go_upto_region 2 with fail
  go_cut [6] (fun s6 wx => ∃ g6, s6 = .pointer (some ⟨g6, 0, none⟩) ∧ Hid (BS B (.pointer a) root had room w o wx o zs why [(g6, boxC ⟨(celAt zs (celAt zs c.l).r).l, (celAt zs (celAt zs c.l).r).r, (celAt zs (celAt zs c.l).r).k, (celAt zs (celAt zs c.l).r).v, (celAt zs (celAt zs c.l).r).s, (celAt zs (celAt zs c.l).r).h⟩), (g5, boxC ⟨(celAt zs c.l).l, (celAt zs c.l).r, (celAt zs c.l).k, (celAt zs c.l).v, (celAt zs c.l).s, (celAt zs c.l).h⟩), (w.heap.size, boxC ⟨c.l, c.r, c.k, c.v, c.s, c.h⟩)]))
  case first =>
    have JD8 := Lib.hid JCg5.out.drew
    refine wp_region_held_drew (S := (fun X => (X.cell? ⟨B, 0, none⟩ = some (.pointer a) ∧ X.cell? ⟨B, 1, none⟩ = some (.int .i64 root)) ∧ (X.cell? ⟨g5, 0, none⟩ = some (.int .i64 (celAt zs c.l).l) ∧ X.cell? ⟨g5, 1, none⟩ = some (.int .i64 (celAt zs c.l).r) ∧ X.cell? ⟨g5, 2, none⟩ = some (.int .i64 (celAt zs c.l).k) ∧ X.cell? ⟨g5, 3, none⟩ = some (.int .i64 (celAt zs c.l).v) ∧ X.cell? ⟨g5, 4, none⟩ = some (.int .i64 (celAt zs c.l).s) ∧ X.cell? ⟨g5, 5, none⟩ = some (.int .i64 (celAt zs c.l).h)))) (by kernel_rfl) (⟨JD8.out.scells, JD8.out.box (List.mem_cons_self ..)⟩) (fun hHeld0 => ?_)
    refine wpAnyH_take (i := 0) (v := ?_) rfl (by kernel_rfl) (by kernel_rfl) (by kernel_rfl) (fun _ _ _ h => h) (Or.inl ⟨by rfl, ?ybturnR_ay1⟩) (by assumption) ?qbturnR_ay1
    case ybturnR_ay1 => (intro wz hSw; (try dsimp only at hSw); go_simp <;> with_reducible rfl)
    try simp only [Act.put, List.getElem_toArray, List.getElem_cons_zero, List.setIfInBounds_toArray, List.set_cons_zero, List.set_cons_succ]
    refine wpAnyH_take (i := 1) (v := ?_) rfl (by kernel_rfl) (by kernel_rfl) (by kernel_rfl) (fun _ _ _ h => h) (Or.inl ⟨by rfl, ?ybturnR_ay2⟩) (by assumption) ?qbturnR_ay2
    case ybturnR_ay2 => (intro wz hSw; (try dsimp only at hSw); go_simp <;> with_reducible rfl)
    try simp only [Act.put, List.getElem_toArray, List.getElem_cons_zero, List.getElem_cons_succ, List.setIfInBounds_toArray, List.set_cons_zero, List.set_cons_succ]
    refine wpAnyH_take (i := 2) (v := ?_) rfl (by kernel_rfl) (by kernel_rfl) (by kernel_rfl) (fun _ _ _ h => h) (Or.inl ⟨by rfl, ?ybturnR_ay3⟩) (by assumption) ?qbturnR_ay3
    case ybturnR_ay3 => (intro wz hSw; (try dsimp only at hSw); go_simp <;> with_reducible rfl)
    try simp only [Act.put, List.getElem_toArray, List.getElem_cons_zero, List.getElem_cons_succ, List.setIfInBounds_toArray, List.set_cons_zero, List.set_cons_succ]
    refine wpAnyH_take (i := 3) (v := ?_) rfl (by kernel_rfl) (by kernel_rfl) (by kernel_rfl) (fun _ _ _ h => h) (Or.inl ⟨by rfl, ?ybturnR_ay4⟩) (by assumption) ?qbturnR_ay4
    case ybturnR_ay4 => (intro wz hSw; (try dsimp only at hSw); go_simp <;> with_reducible rfl)
    try simp only [Act.put, List.getElem_toArray, List.getElem_cons_zero, List.getElem_cons_succ, List.setIfInBounds_toArray, List.set_cons_zero, List.set_cons_succ]
    refine wpAnyH_take (i := 4) (v := ?_) rfl (by kernel_rfl) (by kernel_rfl) (by kernel_rfl) (fun _ _ _ h => h) (Or.inl ⟨by rfl, ?ybturnR_ay5⟩) (by assumption) ?qbturnR_ay5
    case ybturnR_ay5 => (intro wz hSw; (try dsimp only at hSw); go_simp <;> with_reducible rfl)
    try simp only [Act.put, List.getElem_toArray, List.getElem_cons_zero, List.getElem_cons_succ, List.setIfInBounds_toArray, List.set_cons_zero, List.set_cons_succ]
    refine wpAnyH_take (i := 5) (v := ?_) rfl (by kernel_rfl) (by kernel_rfl) (by kernel_rfl) (fun _ _ _ h => h) (Or.inl ⟨by rfl, ?ybturnR_ay6⟩) (by assumption) ?qbturnR_ay6
    case ybturnR_ay6 => (intro wz hSw; (try dsimp only at hSw); go_simp <;> with_reducible rfl)
    try simp only [Act.put, List.getElem_toArray, List.getElem_cons_zero, List.getElem_cons_succ, List.setIfInBounds_toArray, List.set_cons_zero, List.set_cons_succ]
    refine wpAnyH_ready (rs := [6, 7]) (by kernel_rfl) (by simp) ?_
    refine AllReadyH.cons rfl (fun K hK => ?bbturnR_ay7) ?cbturnR_ay7
    case bbturnR_ay7 =>
      go_simp
      refine (pmcell root ((celAt zs c.l).r) JD8.out.bi.2).mono ?_
      rintro e wn9 ⟨rfl, hbn9⟩
      have Jn9 := Lib.hid (JD8.out.below hbn9)
      clear hbn9
      try go_wp2_with fail
      refine hK.out _ _ (⟨Jn9.out.scells, Jn9.out.box (List.mem_cons_self ..)⟩) (fun hHeld7 => ?_)
      clear hK K
      try simp only [Act.put, List.getElem_toArray, List.getElem_cons_zero, List.getElem_cons_succ, List.setIfInBounds_toArray, List.set_cons_zero, List.set_cons_succ]
      refine wpAnyH_ready (rs := [7]) (by kernel_rfl) (by simp) ?_
      refine AllReadyH.cons rfl (fun K hK => ?_) AllReadyH.nil
      rw [if_pos (by rfl)]
      refine wp_alloc_cel rfl ?_
      intro g6 wn10 hgn10 hwn10
      have Jn10 : Hid (BS B (.pointer a) root had room w o wn10 o zs why [(g6, boxC ⟨0, 0, 0, 0, 0, 0⟩), (g5, boxC ⟨(celAt zs c.l).l, (celAt zs c.l).r, (celAt zs c.l).k, (celAt zs c.l).v, (celAt zs c.l).s, (celAt zs c.l).h⟩), (w.heap.size, boxC ⟨c.l, c.r, c.k, c.v, c.s, c.h⟩)]) := Lib.hid (by rw [hgn10, hwn10]; exact Jn9.out.alloc (boxC Cel.zero))
      clear hgn10 hwn10
      refine hK.out _ _ (⟨Jn10.out.scells, Jn10.out.box (List.mem_cons_of_mem _ (List.mem_cons_self ..))⟩) (fun hHeld8 => ?_)
      clear hK K
      try simp only [Act.put, List.getElem_toArray, List.getElem_cons_zero, List.getElem_cons_succ, List.setIfInBounds_toArray, List.set_cons_zero, List.set_cons_succ]
      refine wpAnyH_ready (rs := [8]) (by kernel_rfl) (by simp) ?_
      refine AllReadyH.cons rfl (fun K hK => ?_) AllReadyH.nil
      rw [if_pos (by rfl)]
      refine wp_store_cel (.tmp 6) (.tmp 20) rfl g6 (⟨(celAt zs (celAt zs c.l).r).l, (celAt zs (celAt zs c.l).r).r, (celAt zs (celAt zs c.l).r).k, (celAt zs (celAt zs c.l).r).v, (celAt zs (celAt zs c.l).r).s, (celAt zs (celAt zs c.l).r).h⟩) ⟨0, 0, 0, 0, 0, 0⟩ rfl rfl (Jn10.out.at_ (List.mem_cons_self ..)) ?_
      intro wn11 hstn11
      have Jn11 : Hid (BS B (.pointer a) root had room w o wn11 o zs why [(g6, boxC ⟨(celAt zs (celAt zs c.l).r).l, (celAt zs (celAt zs c.l).r).r, (celAt zs (celAt zs c.l).r).k, (celAt zs (celAt zs c.l).r).v, (celAt zs (celAt zs c.l).r).s, (celAt zs (celAt zs c.l).r).h⟩), (g5, boxC ⟨(celAt zs c.l).l, (celAt zs c.l).r, (celAt zs c.l).k, (celAt zs c.l).v, (celAt zs c.l).s, (celAt zs c.l).h⟩), (w.heap.size, boxC ⟨c.l, c.r, c.k, c.v, c.s, c.h⟩)]) := Lib.hid (Jn10.out.store hstn11)
      clear hstn11
      refine hK.out _ _ (⟨Jn11.out.scells, Jn11.out.box (List.mem_cons_of_mem _ (List.mem_cons_self ..))⟩) (fun hHeld9 => ?_)
      clear hK K
      try simp only [Act.put, List.getElem_toArray, List.getElem_cons_zero, List.getElem_cons_succ]
      refine wpAnyH_done (by kernel_rfl) ?_ _
      go_wp2_with fail
      go_meet
      case rel => exact ⟨g6, rfl, Jn11⟩
    refine AllReadyH.cons rfl (fun K hK => ?bbturnR_ay10) ?cbturnR_ay10
    case bbturnR_ay10 =>
      rw [if_pos (by rfl)]
      refine wp_alloc_cel rfl ?_
      intro g6 wn12 hgn12 hwn12
      have Jn12 : Hid (BS B (.pointer a) root had room w o wn12 o zs why [(g6, boxC ⟨0, 0, 0, 0, 0, 0⟩), (g5, boxC ⟨(celAt zs c.l).l, (celAt zs c.l).r, (celAt zs c.l).k, (celAt zs c.l).v, (celAt zs c.l).s, (celAt zs c.l).h⟩), (w.heap.size, boxC ⟨c.l, c.r, c.k, c.v, c.s, c.h⟩)]) := Lib.hid (by rw [hgn12, hwn12]; exact JD8.out.alloc (boxC Cel.zero))
      clear hgn12 hwn12
      refine hK.out _ _ (⟨Jn12.out.scells, Jn12.out.box (List.mem_cons_of_mem _ (List.mem_cons_self ..))⟩) (fun hHeld10 => ?_)
      clear hK K
      try simp only [Act.put, List.getElem_toArray, List.getElem_cons_zero, List.getElem_cons_succ, List.setIfInBounds_toArray, List.set_cons_zero, List.set_cons_succ]
      refine wpAnyH_ready (rs := [6]) (by kernel_rfl) (by simp) ?_
      refine AllReadyH.cons rfl (fun K hK => ?_) AllReadyH.nil
      go_simp
      refine (pmcell root ((celAt zs c.l).r) Jn12.out.bi.2).mono ?_
      rintro e wn13 ⟨rfl, hbn13⟩
      have Jn13 := Lib.hid (Jn12.out.below hbn13)
      clear hbn13
      try go_wp2_with fail
      refine hK.out _ _ (⟨Jn13.out.scells, Jn13.out.box (List.mem_cons_of_mem _ (List.mem_cons_self ..))⟩) (fun hHeld11 => ?_)
      clear hK K
      try simp only [Act.put, List.getElem_toArray, List.getElem_cons_zero, List.getElem_cons_succ, List.setIfInBounds_toArray, List.set_cons_zero, List.set_cons_succ]
      refine wpAnyH_ready (rs := [8]) (by kernel_rfl) (by simp) ?_
      refine AllReadyH.cons rfl (fun K hK => ?_) AllReadyH.nil
      rw [if_pos (by rfl)]
      refine wp_store_cel (.tmp 6) (.tmp 20) rfl g6 (⟨(celAt zs (celAt zs c.l).r).l, (celAt zs (celAt zs c.l).r).r, (celAt zs (celAt zs c.l).r).k, (celAt zs (celAt zs c.l).r).v, (celAt zs (celAt zs c.l).r).s, (celAt zs (celAt zs c.l).r).h⟩) ⟨0, 0, 0, 0, 0, 0⟩ rfl rfl (Jn13.out.at_ (List.mem_cons_self ..)) ?_
      intro wn14 hstn14
      have Jn14 : Hid (BS B (.pointer a) root had room w o wn14 o zs why [(g6, boxC ⟨(celAt zs (celAt zs c.l).r).l, (celAt zs (celAt zs c.l).r).r, (celAt zs (celAt zs c.l).r).k, (celAt zs (celAt zs c.l).r).v, (celAt zs (celAt zs c.l).r).s, (celAt zs (celAt zs c.l).r).h⟩), (g5, boxC ⟨(celAt zs c.l).l, (celAt zs c.l).r, (celAt zs c.l).k, (celAt zs c.l).v, (celAt zs c.l).s, (celAt zs c.l).h⟩), (w.heap.size, boxC ⟨c.l, c.r, c.k, c.v, c.s, c.h⟩)]) := Lib.hid (Jn13.out.store hstn14)
      clear hstn14
      refine hK.out _ _ (⟨Jn14.out.scells, Jn14.out.box (List.mem_cons_of_mem _ (List.mem_cons_self ..))⟩) (fun hHeld12 => ?_)
      clear hK K
      try simp only [Act.put, List.getElem_toArray, List.getElem_cons_zero, List.getElem_cons_succ]
      refine wpAnyH_done (by kernel_rfl) ?_ _
      go_wp2_with fail
      go_meet
      case rel => exact ⟨g6, rfl, Jn14⟩
    exact AllReadyH.nil
  case rest =>
  obtain ⟨g6, rfl, JCg6⟩ := hcut
  have hfh := fld_h
  go_upto_region 3 with fail
  have JD15 := Lib.hid JCg6.out.drew
  refine wp_region_held_drew (S := (fun X => (X.cell? ⟨B, 0, none⟩ = some (.pointer a) ∧ X.cell? ⟨B, 1, none⟩ = some (.int .i64 root)) ∧ (X.cell? ⟨g5, 0, none⟩ = some (.int .i64 (celAt zs c.l).l) ∧ X.cell? ⟨g5, 1, none⟩ = some (.int .i64 (celAt zs c.l).r) ∧ X.cell? ⟨g5, 2, none⟩ = some (.int .i64 (celAt zs c.l).k) ∧ X.cell? ⟨g5, 3, none⟩ = some (.int .i64 (celAt zs c.l).v) ∧ X.cell? ⟨g5, 4, none⟩ = some (.int .i64 (celAt zs c.l).s) ∧ X.cell? ⟨g5, 5, none⟩ = some (.int .i64 (celAt zs c.l).h)) ∧ (X.cell? ⟨g6, 0, none⟩ = some (.int .i64 (celAt zs (celAt zs c.l).r).l) ∧ X.cell? ⟨g6, 1, none⟩ = some (.int .i64 (celAt zs (celAt zs c.l).r).r) ∧ X.cell? ⟨g6, 2, none⟩ = some (.int .i64 (celAt zs (celAt zs c.l).r).k) ∧ X.cell? ⟨g6, 3, none⟩ = some (.int .i64 (celAt zs (celAt zs c.l).r).v) ∧ X.cell? ⟨g6, 4, none⟩ = some (.int .i64 (celAt zs (celAt zs c.l).r).s) ∧ X.cell? ⟨g6, 5, none⟩ = some (.int .i64 (celAt zs (celAt zs c.l).r).h)))) (by kernel_rfl) (⟨JD15.out.scells, JD15.out.box (List.mem_cons_of_mem _ (List.mem_cons_self ..)), JD15.out.box (List.mem_cons_self ..)⟩) (fun hHeld0 => ?_)
  refine wpAnyH_take (i := 0) (v := ?_) rfl (by kernel_rfl) (by kernel_rfl) (by kernel_rfl) (fun _ _ _ h => h) (Or.inl ⟨by rfl, ?ybturnR_az1⟩) (by assumption) ?qbturnR_az1
  case ybturnR_az1 => (intro wz hSw; (try dsimp only at hSw); go_simp <;> with_reducible rfl)
  try simp only [Act.put, List.getElem_toArray, List.getElem_cons_zero, List.setIfInBounds_toArray, List.set_cons_zero, List.set_cons_succ]
  refine wpAnyH_take (i := 1) (v := ?_) rfl (by kernel_rfl) (by kernel_rfl) (by kernel_rfl) (fun _ _ _ h => h) (Or.inl ⟨by rfl, ?ybturnR_az2⟩) (by assumption) ?qbturnR_az2
  case ybturnR_az2 => (intro wz hSw; (try dsimp only at hSw); go_simp <;> with_reducible rfl)
  try simp only [Act.put, List.getElem_toArray, List.getElem_cons_zero, List.getElem_cons_succ, List.setIfInBounds_toArray, List.set_cons_zero, List.set_cons_succ]
  refine wpAnyH_take (i := 2) (v := ?_) rfl (by kernel_rfl) (by kernel_rfl) (by kernel_rfl) (fun _ _ _ h => h) (Or.inl ⟨by rfl, ?ybturnR_az3⟩) (by assumption) ?qbturnR_az3
  case ybturnR_az3 => (intro wz hSw; (try dsimp only at hSw); go_simp <;> with_reducible rfl)
  try simp only [Act.put, List.getElem_toArray, List.getElem_cons_zero, List.getElem_cons_succ, List.setIfInBounds_toArray, List.set_cons_zero, List.set_cons_succ]
  refine wpAnyH_take (i := 3) (v := ?_) rfl (by kernel_rfl) (by kernel_rfl) (by kernel_rfl) (fun _ _ _ h => h) (Or.inl ⟨by rfl, ?ybturnR_az4⟩) (by assumption) ?qbturnR_az4
  case ybturnR_az4 => (intro wz hSw; (try dsimp only at hSw); go_simp <;> with_reducible rfl)
  try simp only [Act.put, List.getElem_toArray, List.getElem_cons_zero, List.getElem_cons_succ, List.setIfInBounds_toArray, List.set_cons_zero, List.set_cons_succ]
  refine wpAnyH_take (i := 4) (v := ?_) rfl (by kernel_rfl) (by kernel_rfl) (by kernel_rfl) (fun _ _ _ h => h) (Or.inl ⟨by rfl, ?ybturnR_az5⟩) (by assumption) ?qbturnR_az5
  case ybturnR_az5 => (intro wz hSw; (try dsimp only at hSw); go_simp <;> with_reducible rfl)
  try simp only [Act.put, List.getElem_toArray, List.getElem_cons_zero, List.getElem_cons_succ, List.setIfInBounds_toArray, List.set_cons_zero, List.set_cons_succ]
  refine wpAnyH_take (i := 5) (v := ?_) rfl (by kernel_rfl) (by kernel_rfl) (by kernel_rfl) (fun _ _ _ h => h) (Or.inl ⟨by rfl, ?ybturnR_az6⟩) (by assumption) ?qbturnR_az6
  case ybturnR_az6 => (intro wz hSw; (try dsimp only at hSw); go_simp <;> with_reducible rfl)
  try simp only [Act.put, List.getElem_toArray, List.getElem_cons_zero, List.getElem_cons_succ, List.setIfInBounds_toArray, List.set_cons_zero, List.set_cons_succ]
  refine wpAnyH_take (i := 8) (v := ?_) rfl (by kernel_rfl) (by kernel_rfl) (by kernel_rfl) (fun _ _ _ h => h) (Or.inl ⟨by rfl, ?ybturnR_az7⟩) (by assumption) ?qbturnR_az7
  case ybturnR_az7 => (intro wz hSw; (try dsimp only at hSw); go_simp <;> with_reducible rfl)
  try simp only [Act.put, List.getElem_toArray, List.getElem_cons_zero, List.getElem_cons_succ, List.setIfInBounds_toArray, List.set_cons_zero, List.set_cons_succ]
  refine wpAnyH_take (i := 9) (v := ?_) rfl (by kernel_rfl) (by kernel_rfl) (by kernel_rfl) (fun _ _ _ h => h) (Or.inl ⟨by rfl, ?ybturnR_az8⟩) (by assumption) ?qbturnR_az8
  case ybturnR_az8 => (intro wz hSw; (try dsimp only at hSw); go_simp <;> with_reducible rfl)
  try simp only [Act.put, List.getElem_toArray, List.getElem_cons_zero, List.getElem_cons_succ, List.setIfInBounds_toArray, List.set_cons_zero, List.set_cons_succ]
  refine wpAnyH_ready (rs := [6]) (by kernel_rfl) (by simp) ?_
  refine AllReadyH.cons rfl (fun K hK => ?_) AllReadyH.nil
  go_simp
  refine (pmcell root ((celAt zs c.l).l) JD15.out.bi.2).mono ?_
  rintro e wn16 ⟨rfl, hbn16⟩
  have Jn16 := Lib.hid (JD15.out.below hbn16)
  clear hbn16
  try go_wp2_with fail
  refine hK.out _ _ (⟨Jn16.out.scells, Jn16.out.box (List.mem_cons_of_mem _ (List.mem_cons_self ..)), Jn16.out.box (List.mem_cons_self ..)⟩) (fun hHeld9 => ?_)
  clear hK K
  try simp only [Act.put, List.getElem_toArray, List.getElem_cons_zero, List.getElem_cons_succ, List.setIfInBounds_toArray, List.set_cons_zero, List.set_cons_succ]
  refine wpAnyH_take (i := 7) (v := ?_) rfl (by kernel_rfl) (by kernel_rfl) (by kernel_rfl) (fun _ _ _ h => h) (Or.inl ⟨by rfl, ?ybturnR_az10⟩) (by assumption) ?qbturnR_az10
  case ybturnR_az10 => (intro wz hSw; (try dsimp only at hSw); go_simp <;> with_reducible rfl)
  try simp only [Act.put, List.getElem_toArray, List.getElem_cons_zero, List.getElem_cons_succ, List.setIfInBounds_toArray, List.set_cons_zero, List.set_cons_succ]
  refine wpAnyH_take (i := 10) (v := ?_) rfl (by kernel_rfl) (by kernel_rfl) (by kernel_rfl) (fun _ _ _ h => h) (Or.inl ⟨by rfl, ?ybturnR_az11⟩) (by assumption) ?qbturnR_az11
  case ybturnR_az11 => (intro wz hSw; (try dsimp only at hSw); go_simp <;> with_reducible rfl)
  try simp only [Act.put, List.getElem_toArray, List.getElem_cons_zero, List.getElem_cons_succ, List.setIfInBounds_toArray, List.set_cons_zero, List.set_cons_succ]
  refine wpAnyH_done (by kernel_rfl) ?_ _
  obtain ⟨a0, a1, a2, a3, a4, a5⟩ := Jn16.out.box (List.mem_cons_of_mem _ (List.mem_cons_self ..))
  obtain ⟨b0, b1, b2, b3, b4, b5⟩ := Jn16.out.box (List.mem_cons_of_mem _ (List.mem_cons_of_mem _ (List.mem_cons_self ..)))
  obtain ⟨f0, f1, f2, f3, f4, f5⟩ := Jn16.out.fro (List.mem_cons_of_mem _ (List.mem_cons_of_mem _ (List.mem_cons_self ..)))
  go_wp2_with fail
  have JHm17 := Lib.hid Jn16.out.rot
  have JSm17 : Hid (BS B (.pointer a) root had room w o _ o zs why [(w.heap.size, boxC ⟨(celAt zs c.l).r, c.r, c.k, c.v, c.s, c.h⟩), (g6, boxC ⟨(celAt zs (celAt zs c.l).r).l, (celAt zs (celAt zs c.l).r).r, (celAt zs (celAt zs c.l).r).k, (celAt zs (celAt zs c.l).r).v, (celAt zs (celAt zs c.l).r).s, (celAt zs (celAt zs c.l).r).h⟩), (g5, boxC ⟨(celAt zs c.l).l, (celAt zs c.l).r, (celAt zs c.l).k, (celAt zs c.l).v, (celAt zs c.l).s, (celAt zs c.l).h⟩)]) := Lib.hid (JHm17.out.store (stored_l (JHm17.out.at_ (List.mem_cons_self ..)) _))
  refine (B1.out _ _ JSm17.out.bi).mono ?_
  intro e wm17 hsm17
  obtain ⟨rfl, om17, Jm17⟩ := JSm17.out.call hsm17
  clear hsm17
  clear a0 a1 a2 a3 a4 a5 b0 b1 b2 b3 b4 b5 f0 f1 f2 f3 f4 f5
  obtain ⟨a0, a1, a2, a3, a4, a5⟩ := Jm17.out.box (List.mem_cons_of_mem _ (List.mem_cons_of_mem _ (List.mem_cons_self ..)))
  obtain ⟨f0, f1, f2, f3, f4, f5⟩ := Jm17.out.fro (List.mem_cons_of_mem _ (List.mem_cons_of_mem _ (List.mem_cons_self ..)))
  go_wp2_with fail
  have JHm18 := Lib.hid Jm17.out.rot
  have JSm18 : Hid (BS B (.pointer a) root had room w o _ om17 zs1 why1 [(g5, boxC ⟨(celAt zs c.l).l, i1, (celAt zs c.l).k, (celAt zs c.l).v, (celAt zs c.l).s, (celAt zs c.l).h⟩), (w.heap.size, boxC ⟨(celAt zs c.l).r, c.r, c.k, c.v, c.s, c.h⟩), (g6, boxC ⟨(celAt zs (celAt zs c.l).r).l, (celAt zs (celAt zs c.l).r).r, (celAt zs (celAt zs c.l).r).k, (celAt zs (celAt zs c.l).r).v, (celAt zs (celAt zs c.l).r).s, (celAt zs (celAt zs c.l).r).h⟩)]) := Lib.hid (JHm18.out.store (stored_r (JHm18.out.at_ (List.mem_cons_self ..)) _))
  refine (B2.out _ _ JSm18.out.bi).mono ?_
  intro e wm18 hsm18
  obtain ⟨rfl, om18, Jm18⟩ := JSm18.out.call hsm18
  clear hsm18
  go_wp2_with fail
  go_ret
  exact Jm18.out.done _
set_option maxHeartbeats 8000000 in
set_option maxRecDepth 100000 in
theorem bturnR_b {w : World} {B : Nat} {pv : Value} {o : Option Nat} {root had : Int} {room : Nat} {zs : List Cel} {why : Int} (c : Cel) (h : BI w B pv o root had room zs why) (hc : fitC c zs.length) (hok : c.ok) (hcd : ¬ (celAt zs (celAt zs c.l).r).h ≤ (celAt zs (celAt zs c.l).l).h) :
    Calls Try.prog 92 #[.pointer (some ⟨B, 0, none⟩), .agg #[.int .i64 c.l, .int .i64 c.r, .int .i64 c.k, .int .i64 c.v, .int .i64 c.s, .int .i64 c.h]] w (BP B pv o root had room (turnRM room zs why c).1 (turnRM room zs why c).2.1 (.int .i64 (turnRM room zs why c).2.2) w) := by
  obtain ⟨a, rfl⟩ : ∃ a, pv = .pointer a := by
    rcases h.2 with ⟨rfl, _⟩ | ⟨b, rfl, _⟩
    · exact ⟨_, rfl⟩
    · exact ⟨_, rfl⟩
  have hbk := h.2.bk
  have hle := h.2.le
  have hoks := h.2.oks
  have hlf := celAt_fit hbk c.l
  have hlo := celAt_ok hoks c.l
  have hmf := celAt_fit hbk ((celAt zs c.l).r)
  have hmo := celAt_ok hoks ((celAt zs c.l).r)
  have hol := celAt_ok hoks ((celAt zs c.l).l)
  unfold turnRM
  rw [if_neg hcd]
  dsimp only
  have hp1 := putM_le room zs why ⟨(celAt zs c.l).l, (celAt zs (celAt zs c.l).r).l, (celAt zs c.l).k, (celAt zs c.l).v, (celAt zs c.l).s, (celAt zs c.l).h⟩
  have hq1 := putM_le2 room zs why ⟨(celAt zs c.l).l, (celAt zs (celAt zs c.l).r).l, (celAt zs c.l).k, (celAt zs c.l).v, (celAt zs c.l).s, (celAt zs c.l).h⟩
  have B1 : Hid (∀ (X : World) (o : Option Nat), BI X B (.pointer a) o root had room zs why → Calls Try.prog 80 #[.pointer (some ⟨B, 0, none⟩), .agg #[.int .i64 (celAt zs c.l).l, .int .i64 (celAt zs (celAt zs c.l).r).l, .int .i64 (celAt zs c.l).k, .int .i64 (celAt zs c.l).v, .int .i64 (celAt zs c.l).s, .int .i64 (celAt zs c.l).h]] X (BP B (.pointer a) o root had room (putM room zs why ⟨(celAt zs c.l).l, (celAt zs (celAt zs c.l).r).l, (celAt zs c.l).k, (celAt zs c.l).v, (celAt zs c.l).s, (celAt zs c.l).h⟩).1 (putM room zs why ⟨(celAt zs c.l).l, (celAt zs (celAt zs c.l).r).l, (celAt zs c.l).k, (celAt zs c.l).v, (celAt zs c.l).s, (celAt zs c.l).h⟩).2.1 (.int .i64 (putM room zs why ⟨(celAt zs c.l).l, (celAt zs (celAt zs c.l).r).l, (celAt zs c.l).k, (celAt zs c.l).v, (celAt zs c.l).s, (celAt zs c.l).h⟩).2.2) X)) := Lib.hid fun X o h => bput ⟨(celAt zs c.l).l, (celAt zs (celAt zs c.l).r).l, (celAt zs c.l).k, (celAt zs c.l).v, (celAt zs c.l).s, (celAt zs c.l).h⟩ h (by unfold fitC at *; simp only at *; omega) (by unfold Cel.ok at *; simp only at *; omega)
  generalize putM room zs why ⟨(celAt zs c.l).l, (celAt zs (celAt zs c.l).r).l, (celAt zs c.l).k, (celAt zs c.l).v, (celAt zs c.l).s, (celAt zs c.l).h⟩ = q1 at hp1 hq1 B1 ⊢
  obtain ⟨zs1, why1, i1⟩ := q1
  simp only at hp1 hq1 B1 ⊢
  have hp2 := putM_le room zs1 why1 ⟨(celAt zs (celAt zs c.l).r).r, c.r, c.k, c.v, c.s, c.h⟩
  have hq2 := putM_le2 room zs1 why1 ⟨(celAt zs (celAt zs c.l).r).r, c.r, c.k, c.v, c.s, c.h⟩
  have B2 : Hid (∀ (X : World) (o : Option Nat), BI X B (.pointer a) o root had room zs1 why1 → Calls Try.prog 80 #[.pointer (some ⟨B, 0, none⟩), .agg #[.int .i64 (celAt zs (celAt zs c.l).r).r, .int .i64 c.r, .int .i64 c.k, .int .i64 c.v, .int .i64 c.s, .int .i64 c.h]] X (BP B (.pointer a) o root had room (putM room zs1 why1 ⟨(celAt zs (celAt zs c.l).r).r, c.r, c.k, c.v, c.s, c.h⟩).1 (putM room zs1 why1 ⟨(celAt zs (celAt zs c.l).r).r, c.r, c.k, c.v, c.s, c.h⟩).2.1 (.int .i64 (putM room zs1 why1 ⟨(celAt zs (celAt zs c.l).r).r, c.r, c.k, c.v, c.s, c.h⟩).2.2) X)) := Lib.hid fun X o h => bput ⟨(celAt zs (celAt zs c.l).r).r, c.r, c.k, c.v, c.s, c.h⟩ h (by unfold fitC at *; simp only at *; omega) (by unfold Cel.ok at *; simp only at *; omega)
  generalize putM room zs1 why1 ⟨(celAt zs (celAt zs c.l).r).r, c.r, c.k, c.v, c.s, c.h⟩ = q2 at hp2 hq2 B2 ⊢
  obtain ⟨zs2, why2, i2⟩ := q2
  simp only at hp2 hq2 B2 ⊢
  have hp3 := putM_le room zs2 why2 ⟨i1, i2, (celAt zs (celAt zs c.l).r).k, (celAt zs (celAt zs c.l).r).v, (celAt zs (celAt zs c.l).r).s, (celAt zs (celAt zs c.l).r).h⟩
  have hq3 := putM_le2 room zs2 why2 ⟨i1, i2, (celAt zs (celAt zs c.l).r).k, (celAt zs (celAt zs c.l).r).v, (celAt zs (celAt zs c.l).r).s, (celAt zs (celAt zs c.l).r).h⟩
  have B3 : Hid (∀ (X : World) (o : Option Nat), BI X B (.pointer a) o root had room zs2 why2 → Calls Try.prog 80 #[.pointer (some ⟨B, 0, none⟩), .agg #[.int .i64 i1, .int .i64 i2, .int .i64 (celAt zs (celAt zs c.l).r).k, .int .i64 (celAt zs (celAt zs c.l).r).v, .int .i64 (celAt zs (celAt zs c.l).r).s, .int .i64 (celAt zs (celAt zs c.l).r).h]] X (BP B (.pointer a) o root had room (putM room zs2 why2 ⟨i1, i2, (celAt zs (celAt zs c.l).r).k, (celAt zs (celAt zs c.l).r).v, (celAt zs (celAt zs c.l).r).s, (celAt zs (celAt zs c.l).r).h⟩).1 (putM room zs2 why2 ⟨i1, i2, (celAt zs (celAt zs c.l).r).k, (celAt zs (celAt zs c.l).r).v, (celAt zs (celAt zs c.l).r).s, (celAt zs (celAt zs c.l).r).h⟩).2.1 (.int .i64 (putM room zs2 why2 ⟨i1, i2, (celAt zs (celAt zs c.l).r).k, (celAt zs (celAt zs c.l).r).v, (celAt zs (celAt zs c.l).r).s, (celAt zs (celAt zs c.l).r).h⟩).2.2) X)) := Lib.hid fun X o h => bput ⟨i1, i2, (celAt zs (celAt zs c.l).r).k, (celAt zs (celAt zs c.l).r).v, (celAt zs (celAt zs c.l).r).s, (celAt zs (celAt zs c.l).r).h⟩ h (by unfold fitC at *; simp only at *; omega) (by unfold Cel.ok at *; simp only at *; omega)
  generalize putM room zs2 why2 ⟨i1, i2, (celAt zs (celAt zs c.l).r).k, (celAt zs (celAt zs c.l).r).v, (celAt zs (celAt zs c.l).r).s, (celAt zs (celAt zs c.l).r).h⟩ = q3 at hp3 hq3 B3 ⊢
  obtain ⟨zs3, why3, i3⟩ := q3
  simp only at hp3 hq3 B3 ⊢
  have J0 : Hid (BS B (.pointer a) root had room w o (w.alloc (boxC ⟨c.l, c.r, c.k, c.v, c.s, c.h⟩)) o zs why [(w.heap.size, boxC ⟨c.l, c.r, c.k, c.v, c.s, c.h⟩)]) := Lib.hid ((BS.start h).alloc (boxC c))
  have hcd2 : (celAt zs (celAt zs c.l).l).h < (celAt zs (celAt zs c.l).r).h := by omega
  clear h hc hok hbk hle hoks hlf hlo hmf hmo hol hcd hp1 hq1 hp2 hq2 hp3 hq3
  go_enter Try.func92, Try.ntmps92
  go_upto_region 1 with fail
  go_cut [5] (fun s5 wx => ∃ g5, s5 = .pointer (some ⟨g5, 0, none⟩) ∧ Hid (BS B (.pointer a) root had room w o wx o zs why [(g5, boxC ⟨(celAt zs c.l).l, (celAt zs c.l).r, (celAt zs c.l).k, (celAt zs c.l).v, (celAt zs c.l).s, (celAt zs c.l).h⟩), (w.heap.size, boxC ⟨c.l, c.r, c.k, c.v, c.s, c.h⟩)]))
  case first =>
    have JD1 := Lib.hid J0.out.drew
    refine wp_region_held_drew (S := (fun X => (X.cell? ⟨B, 0, none⟩ = some (.pointer a) ∧ X.cell? ⟨B, 1, none⟩ = some (.int .i64 root)) ∧ (X.cell? ⟨w.heap.size, 0, none⟩ = some (.int .i64 c.l) ∧ X.cell? ⟨w.heap.size, 1, none⟩ = some (.int .i64 c.r) ∧ X.cell? ⟨w.heap.size, 2, none⟩ = some (.int .i64 c.k) ∧ X.cell? ⟨w.heap.size, 3, none⟩ = some (.int .i64 c.v) ∧ X.cell? ⟨w.heap.size, 4, none⟩ = some (.int .i64 c.s) ∧ X.cell? ⟨w.heap.size, 5, none⟩ = some (.int .i64 c.h)))) (by kernel_rfl) (⟨JD1.out.scells, JD1.out.box (List.mem_cons_self ..)⟩) (fun hHeld0 => ?_)
    refine wpAnyH_take (i := 0) (v := ?_) rfl (by kernel_rfl) (by kernel_rfl) (by kernel_rfl) (fun _ _ _ h => h) (Or.inl ⟨by rfl, ?ybturnR_bx1⟩) (by assumption) ?qbturnR_bx1
    case ybturnR_bx1 => (intro wz hSw; (try dsimp only at hSw); go_simp <;> with_reducible rfl)
    try simp only [Act.put, List.getElem_toArray, List.getElem_cons_zero, List.setIfInBounds_toArray, List.set_cons_zero, List.set_cons_succ]
    refine wpAnyH_take (i := 1) (v := ?_) rfl (by kernel_rfl) (by kernel_rfl) (by kernel_rfl) (fun _ _ _ h => h) (Or.inl ⟨by rfl, ?ybturnR_bx2⟩) (by assumption) ?qbturnR_bx2
    case ybturnR_bx2 => (intro wz hSw; (try dsimp only at hSw); go_simp <;> with_reducible rfl)
    try simp only [Act.put, List.getElem_toArray, List.getElem_cons_zero, List.getElem_cons_succ, List.setIfInBounds_toArray, List.set_cons_zero, List.set_cons_succ]
    refine wpAnyH_take (i := 2) (v := ?_) rfl (by kernel_rfl) (by kernel_rfl) (by kernel_rfl) (fun _ _ _ h => h) (Or.inl ⟨by rfl, ?ybturnR_bx3⟩) (by assumption) ?qbturnR_bx3
    case ybturnR_bx3 => (intro wz hSw; (try dsimp only at hSw); go_simp <;> with_reducible rfl)
    try simp only [Act.put, List.getElem_toArray, List.getElem_cons_zero, List.getElem_cons_succ, List.setIfInBounds_toArray, List.set_cons_zero, List.set_cons_succ]
    refine wpAnyH_take (i := 3) (v := ?_) rfl (by kernel_rfl) (by kernel_rfl) (by kernel_rfl) (fun _ _ _ h => h) (Or.inl ⟨by rfl, ?ybturnR_bx4⟩) (by assumption) ?qbturnR_bx4
    case ybturnR_bx4 => (intro wz hSw; (try dsimp only at hSw); go_simp <;> with_reducible rfl)
    try simp only [Act.put, List.getElem_toArray, List.getElem_cons_zero, List.getElem_cons_succ, List.setIfInBounds_toArray, List.set_cons_zero, List.set_cons_succ]
    refine wpAnyH_take (i := 4) (v := ?_) rfl (by kernel_rfl) (by kernel_rfl) (by kernel_rfl) (fun _ _ _ h => h) (Or.inl ⟨by rfl, ?ybturnR_bx5⟩) (by assumption) ?qbturnR_bx5
    case ybturnR_bx5 => (intro wz hSw; (try dsimp only at hSw); go_simp <;> with_reducible rfl)
    try simp only [Act.put, List.getElem_toArray, List.getElem_cons_zero, List.getElem_cons_succ, List.setIfInBounds_toArray, List.set_cons_zero, List.set_cons_succ]
    refine wpAnyH_take (i := 5) (v := ?_) rfl (by kernel_rfl) (by kernel_rfl) (by kernel_rfl) (fun _ _ _ h => h) (Or.inl ⟨by rfl, ?ybturnR_bx6⟩) (by assumption) ?qbturnR_bx6
    case ybturnR_bx6 => (intro wz hSw; (try dsimp only at hSw); go_simp <;> with_reducible rfl)
    try simp only [Act.put, List.getElem_toArray, List.getElem_cons_zero, List.getElem_cons_succ, List.setIfInBounds_toArray, List.set_cons_zero, List.set_cons_succ]
    refine wpAnyH_ready (rs := [6, 7]) (by kernel_rfl) (by simp) ?_
    refine AllReadyH.cons rfl (fun K hK => ?bbturnR_bx7) ?cbturnR_bx7
    case bbturnR_bx7 =>
      go_simp
      refine (pmcell root (c.l) JD1.out.bi.2).mono ?_
      rintro e wn2 ⟨rfl, hbn2⟩
      have Jn2 := Lib.hid (JD1.out.below hbn2)
      clear hbn2
      try go_wp2_with fail
      refine hK.out _ _ (⟨Jn2.out.scells, Jn2.out.box (List.mem_cons_self ..)⟩) (fun hHeld7 => ?_)
      clear hK K
      try simp only [Act.put, List.getElem_toArray, List.getElem_cons_zero, List.getElem_cons_succ, List.setIfInBounds_toArray, List.set_cons_zero, List.set_cons_succ]
      refine wpAnyH_ready (rs := [7]) (by kernel_rfl) (by simp) ?_
      refine AllReadyH.cons rfl (fun K hK => ?_) AllReadyH.nil
      rw [if_pos (by rfl)]
      refine wp_alloc_cel rfl ?_
      intro g5 wn3 hgn3 hwn3
      have Jn3 : Hid (BS B (.pointer a) root had room w o wn3 o zs why [(g5, boxC ⟨0, 0, 0, 0, 0, 0⟩), (w.heap.size, boxC ⟨c.l, c.r, c.k, c.v, c.s, c.h⟩)]) := Lib.hid (by rw [hgn3, hwn3]; exact Jn2.out.alloc (boxC Cel.zero))
      clear hgn3 hwn3
      refine hK.out _ _ (⟨Jn3.out.scells, Jn3.out.box (List.mem_cons_of_mem _ (List.mem_cons_self ..))⟩) (fun hHeld8 => ?_)
      clear hK K
      try simp only [Act.put, List.getElem_toArray, List.getElem_cons_zero, List.getElem_cons_succ, List.setIfInBounds_toArray, List.set_cons_zero, List.set_cons_succ]
      refine wpAnyH_ready (rs := [8]) (by kernel_rfl) (by simp) ?_
      refine AllReadyH.cons rfl (fun K hK => ?_) AllReadyH.nil
      rw [if_pos (by rfl)]
      refine wp_store_cel (.tmp 5) (.tmp 13) rfl g5 (⟨(celAt zs c.l).l, (celAt zs c.l).r, (celAt zs c.l).k, (celAt zs c.l).v, (celAt zs c.l).s, (celAt zs c.l).h⟩) ⟨0, 0, 0, 0, 0, 0⟩ rfl rfl (Jn3.out.at_ (List.mem_cons_self ..)) ?_
      intro wn4 hstn4
      have Jn4 : Hid (BS B (.pointer a) root had room w o wn4 o zs why [(g5, boxC ⟨(celAt zs c.l).l, (celAt zs c.l).r, (celAt zs c.l).k, (celAt zs c.l).v, (celAt zs c.l).s, (celAt zs c.l).h⟩), (w.heap.size, boxC ⟨c.l, c.r, c.k, c.v, c.s, c.h⟩)]) := Lib.hid (Jn3.out.store hstn4)
      clear hstn4
      refine hK.out _ _ (⟨Jn4.out.scells, Jn4.out.box (List.mem_cons_of_mem _ (List.mem_cons_self ..))⟩) (fun hHeld9 => ?_)
      clear hK K
      try simp only [Act.put, List.getElem_toArray, List.getElem_cons_zero, List.getElem_cons_succ]
      refine wpAnyH_done (by kernel_rfl) ?_ _
      go_wp2_with fail
      go_meet
      case rel => exact ⟨g5, rfl, Jn4⟩
    refine AllReadyH.cons rfl (fun K hK => ?bbturnR_bx10) ?cbturnR_bx10
    case bbturnR_bx10 =>
      rw [if_pos (by rfl)]
      refine wp_alloc_cel rfl ?_
      intro g5 wn5 hgn5 hwn5
      have Jn5 : Hid (BS B (.pointer a) root had room w o wn5 o zs why [(g5, boxC ⟨0, 0, 0, 0, 0, 0⟩), (w.heap.size, boxC ⟨c.l, c.r, c.k, c.v, c.s, c.h⟩)]) := Lib.hid (by rw [hgn5, hwn5]; exact JD1.out.alloc (boxC Cel.zero))
      clear hgn5 hwn5
      refine hK.out _ _ (⟨Jn5.out.scells, Jn5.out.box (List.mem_cons_of_mem _ (List.mem_cons_self ..))⟩) (fun hHeld10 => ?_)
      clear hK K
      try simp only [Act.put, List.getElem_toArray, List.getElem_cons_zero, List.getElem_cons_succ, List.setIfInBounds_toArray, List.set_cons_zero, List.set_cons_succ]
      refine wpAnyH_ready (rs := [6]) (by kernel_rfl) (by simp) ?_
      refine AllReadyH.cons rfl (fun K hK => ?_) AllReadyH.nil
      go_simp
      refine (pmcell root (c.l) Jn5.out.bi.2).mono ?_
      rintro e wn6 ⟨rfl, hbn6⟩
      have Jn6 := Lib.hid (Jn5.out.below hbn6)
      clear hbn6
      try go_wp2_with fail
      refine hK.out _ _ (⟨Jn6.out.scells, Jn6.out.box (List.mem_cons_of_mem _ (List.mem_cons_self ..))⟩) (fun hHeld11 => ?_)
      clear hK K
      try simp only [Act.put, List.getElem_toArray, List.getElem_cons_zero, List.getElem_cons_succ, List.setIfInBounds_toArray, List.set_cons_zero, List.set_cons_succ]
      refine wpAnyH_ready (rs := [8]) (by kernel_rfl) (by simp) ?_
      refine AllReadyH.cons rfl (fun K hK => ?_) AllReadyH.nil
      rw [if_pos (by rfl)]
      refine wp_store_cel (.tmp 5) (.tmp 13) rfl g5 (⟨(celAt zs c.l).l, (celAt zs c.l).r, (celAt zs c.l).k, (celAt zs c.l).v, (celAt zs c.l).s, (celAt zs c.l).h⟩) ⟨0, 0, 0, 0, 0, 0⟩ rfl rfl (Jn6.out.at_ (List.mem_cons_self ..)) ?_
      intro wn7 hstn7
      have Jn7 : Hid (BS B (.pointer a) root had room w o wn7 o zs why [(g5, boxC ⟨(celAt zs c.l).l, (celAt zs c.l).r, (celAt zs c.l).k, (celAt zs c.l).v, (celAt zs c.l).s, (celAt zs c.l).h⟩), (w.heap.size, boxC ⟨c.l, c.r, c.k, c.v, c.s, c.h⟩)]) := Lib.hid (Jn6.out.store hstn7)
      clear hstn7
      refine hK.out _ _ (⟨Jn7.out.scells, Jn7.out.box (List.mem_cons_of_mem _ (List.mem_cons_self ..))⟩) (fun hHeld12 => ?_)
      clear hK K
      try simp only [Act.put, List.getElem_toArray, List.getElem_cons_zero, List.getElem_cons_succ]
      refine wpAnyH_done (by kernel_rfl) ?_ _
      go_wp2_with fail
      go_meet
      case rel => exact ⟨g5, rfl, Jn7⟩
    exact AllReadyH.nil
  case rest =>
  obtain ⟨g5, rfl, JCg5⟩ := hcut
  go_upto_region 2 with fail
  go_cut [6] (fun s6 wx => ∃ g6, s6 = .pointer (some ⟨g6, 0, none⟩) ∧ Hid (BS B (.pointer a) root had room w o wx o zs why [(g6, boxC ⟨(celAt zs (celAt zs c.l).r).l, (celAt zs (celAt zs c.l).r).r, (celAt zs (celAt zs c.l).r).k, (celAt zs (celAt zs c.l).r).v, (celAt zs (celAt zs c.l).r).s, (celAt zs (celAt zs c.l).r).h⟩), (g5, boxC ⟨(celAt zs c.l).l, (celAt zs c.l).r, (celAt zs c.l).k, (celAt zs c.l).v, (celAt zs c.l).s, (celAt zs c.l).h⟩), (w.heap.size, boxC ⟨c.l, c.r, c.k, c.v, c.s, c.h⟩)]))
  case first =>
    have JD8 := Lib.hid JCg5.out.drew
    refine wp_region_held_drew (S := (fun X => (X.cell? ⟨B, 0, none⟩ = some (.pointer a) ∧ X.cell? ⟨B, 1, none⟩ = some (.int .i64 root)) ∧ (X.cell? ⟨g5, 0, none⟩ = some (.int .i64 (celAt zs c.l).l) ∧ X.cell? ⟨g5, 1, none⟩ = some (.int .i64 (celAt zs c.l).r) ∧ X.cell? ⟨g5, 2, none⟩ = some (.int .i64 (celAt zs c.l).k) ∧ X.cell? ⟨g5, 3, none⟩ = some (.int .i64 (celAt zs c.l).v) ∧ X.cell? ⟨g5, 4, none⟩ = some (.int .i64 (celAt zs c.l).s) ∧ X.cell? ⟨g5, 5, none⟩ = some (.int .i64 (celAt zs c.l).h)))) (by kernel_rfl) (⟨JD8.out.scells, JD8.out.box (List.mem_cons_self ..)⟩) (fun hHeld0 => ?_)
    refine wpAnyH_take (i := 0) (v := ?_) rfl (by kernel_rfl) (by kernel_rfl) (by kernel_rfl) (fun _ _ _ h => h) (Or.inl ⟨by rfl, ?ybturnR_by1⟩) (by assumption) ?qbturnR_by1
    case ybturnR_by1 => (intro wz hSw; (try dsimp only at hSw); go_simp <;> with_reducible rfl)
    try simp only [Act.put, List.getElem_toArray, List.getElem_cons_zero, List.setIfInBounds_toArray, List.set_cons_zero, List.set_cons_succ]
    refine wpAnyH_take (i := 1) (v := ?_) rfl (by kernel_rfl) (by kernel_rfl) (by kernel_rfl) (fun _ _ _ h => h) (Or.inl ⟨by rfl, ?ybturnR_by2⟩) (by assumption) ?qbturnR_by2
    case ybturnR_by2 => (intro wz hSw; (try dsimp only at hSw); go_simp <;> with_reducible rfl)
    try simp only [Act.put, List.getElem_toArray, List.getElem_cons_zero, List.getElem_cons_succ, List.setIfInBounds_toArray, List.set_cons_zero, List.set_cons_succ]
    refine wpAnyH_take (i := 2) (v := ?_) rfl (by kernel_rfl) (by kernel_rfl) (by kernel_rfl) (fun _ _ _ h => h) (Or.inl ⟨by rfl, ?ybturnR_by3⟩) (by assumption) ?qbturnR_by3
    case ybturnR_by3 => (intro wz hSw; (try dsimp only at hSw); go_simp <;> with_reducible rfl)
    try simp only [Act.put, List.getElem_toArray, List.getElem_cons_zero, List.getElem_cons_succ, List.setIfInBounds_toArray, List.set_cons_zero, List.set_cons_succ]
    refine wpAnyH_take (i := 3) (v := ?_) rfl (by kernel_rfl) (by kernel_rfl) (by kernel_rfl) (fun _ _ _ h => h) (Or.inl ⟨by rfl, ?ybturnR_by4⟩) (by assumption) ?qbturnR_by4
    case ybturnR_by4 => (intro wz hSw; (try dsimp only at hSw); go_simp <;> with_reducible rfl)
    try simp only [Act.put, List.getElem_toArray, List.getElem_cons_zero, List.getElem_cons_succ, List.setIfInBounds_toArray, List.set_cons_zero, List.set_cons_succ]
    refine wpAnyH_take (i := 4) (v := ?_) rfl (by kernel_rfl) (by kernel_rfl) (by kernel_rfl) (fun _ _ _ h => h) (Or.inl ⟨by rfl, ?ybturnR_by5⟩) (by assumption) ?qbturnR_by5
    case ybturnR_by5 => (intro wz hSw; (try dsimp only at hSw); go_simp <;> with_reducible rfl)
    try simp only [Act.put, List.getElem_toArray, List.getElem_cons_zero, List.getElem_cons_succ, List.setIfInBounds_toArray, List.set_cons_zero, List.set_cons_succ]
    refine wpAnyH_take (i := 5) (v := ?_) rfl (by kernel_rfl) (by kernel_rfl) (by kernel_rfl) (fun _ _ _ h => h) (Or.inl ⟨by rfl, ?ybturnR_by6⟩) (by assumption) ?qbturnR_by6
    case ybturnR_by6 => (intro wz hSw; (try dsimp only at hSw); go_simp <;> with_reducible rfl)
    try simp only [Act.put, List.getElem_toArray, List.getElem_cons_zero, List.getElem_cons_succ, List.setIfInBounds_toArray, List.set_cons_zero, List.set_cons_succ]
    refine wpAnyH_ready (rs := [6, 7]) (by kernel_rfl) (by simp) ?_
    refine AllReadyH.cons rfl (fun K hK => ?bbturnR_by7) ?cbturnR_by7
    case bbturnR_by7 =>
      go_simp
      refine (pmcell root ((celAt zs c.l).r) JD8.out.bi.2).mono ?_
      rintro e wn9 ⟨rfl, hbn9⟩
      have Jn9 := Lib.hid (JD8.out.below hbn9)
      clear hbn9
      try go_wp2_with fail
      refine hK.out _ _ (⟨Jn9.out.scells, Jn9.out.box (List.mem_cons_self ..)⟩) (fun hHeld7 => ?_)
      clear hK K
      try simp only [Act.put, List.getElem_toArray, List.getElem_cons_zero, List.getElem_cons_succ, List.setIfInBounds_toArray, List.set_cons_zero, List.set_cons_succ]
      refine wpAnyH_ready (rs := [7]) (by kernel_rfl) (by simp) ?_
      refine AllReadyH.cons rfl (fun K hK => ?_) AllReadyH.nil
      rw [if_pos (by rfl)]
      refine wp_alloc_cel rfl ?_
      intro g6 wn10 hgn10 hwn10
      have Jn10 : Hid (BS B (.pointer a) root had room w o wn10 o zs why [(g6, boxC ⟨0, 0, 0, 0, 0, 0⟩), (g5, boxC ⟨(celAt zs c.l).l, (celAt zs c.l).r, (celAt zs c.l).k, (celAt zs c.l).v, (celAt zs c.l).s, (celAt zs c.l).h⟩), (w.heap.size, boxC ⟨c.l, c.r, c.k, c.v, c.s, c.h⟩)]) := Lib.hid (by rw [hgn10, hwn10]; exact Jn9.out.alloc (boxC Cel.zero))
      clear hgn10 hwn10
      refine hK.out _ _ (⟨Jn10.out.scells, Jn10.out.box (List.mem_cons_of_mem _ (List.mem_cons_self ..))⟩) (fun hHeld8 => ?_)
      clear hK K
      try simp only [Act.put, List.getElem_toArray, List.getElem_cons_zero, List.getElem_cons_succ, List.setIfInBounds_toArray, List.set_cons_zero, List.set_cons_succ]
      refine wpAnyH_ready (rs := [8]) (by kernel_rfl) (by simp) ?_
      refine AllReadyH.cons rfl (fun K hK => ?_) AllReadyH.nil
      rw [if_pos (by rfl)]
      refine wp_store_cel (.tmp 6) (.tmp 20) rfl g6 (⟨(celAt zs (celAt zs c.l).r).l, (celAt zs (celAt zs c.l).r).r, (celAt zs (celAt zs c.l).r).k, (celAt zs (celAt zs c.l).r).v, (celAt zs (celAt zs c.l).r).s, (celAt zs (celAt zs c.l).r).h⟩) ⟨0, 0, 0, 0, 0, 0⟩ rfl rfl (Jn10.out.at_ (List.mem_cons_self ..)) ?_
      intro wn11 hstn11
      have Jn11 : Hid (BS B (.pointer a) root had room w o wn11 o zs why [(g6, boxC ⟨(celAt zs (celAt zs c.l).r).l, (celAt zs (celAt zs c.l).r).r, (celAt zs (celAt zs c.l).r).k, (celAt zs (celAt zs c.l).r).v, (celAt zs (celAt zs c.l).r).s, (celAt zs (celAt zs c.l).r).h⟩), (g5, boxC ⟨(celAt zs c.l).l, (celAt zs c.l).r, (celAt zs c.l).k, (celAt zs c.l).v, (celAt zs c.l).s, (celAt zs c.l).h⟩), (w.heap.size, boxC ⟨c.l, c.r, c.k, c.v, c.s, c.h⟩)]) := Lib.hid (Jn10.out.store hstn11)
      clear hstn11
      refine hK.out _ _ (⟨Jn11.out.scells, Jn11.out.box (List.mem_cons_of_mem _ (List.mem_cons_self ..))⟩) (fun hHeld9 => ?_)
      clear hK K
      try simp only [Act.put, List.getElem_toArray, List.getElem_cons_zero, List.getElem_cons_succ]
      refine wpAnyH_done (by kernel_rfl) ?_ _
      go_wp2_with fail
      go_meet
      case rel => exact ⟨g6, rfl, Jn11⟩
    refine AllReadyH.cons rfl (fun K hK => ?bbturnR_by10) ?cbturnR_by10
    case bbturnR_by10 =>
      rw [if_pos (by rfl)]
      refine wp_alloc_cel rfl ?_
      intro g6 wn12 hgn12 hwn12
      have Jn12 : Hid (BS B (.pointer a) root had room w o wn12 o zs why [(g6, boxC ⟨0, 0, 0, 0, 0, 0⟩), (g5, boxC ⟨(celAt zs c.l).l, (celAt zs c.l).r, (celAt zs c.l).k, (celAt zs c.l).v, (celAt zs c.l).s, (celAt zs c.l).h⟩), (w.heap.size, boxC ⟨c.l, c.r, c.k, c.v, c.s, c.h⟩)]) := Lib.hid (by rw [hgn12, hwn12]; exact JD8.out.alloc (boxC Cel.zero))
      clear hgn12 hwn12
      refine hK.out _ _ (⟨Jn12.out.scells, Jn12.out.box (List.mem_cons_of_mem _ (List.mem_cons_self ..))⟩) (fun hHeld10 => ?_)
      clear hK K
      try simp only [Act.put, List.getElem_toArray, List.getElem_cons_zero, List.getElem_cons_succ, List.setIfInBounds_toArray, List.set_cons_zero, List.set_cons_succ]
      refine wpAnyH_ready (rs := [6]) (by kernel_rfl) (by simp) ?_
      refine AllReadyH.cons rfl (fun K hK => ?_) AllReadyH.nil
      go_simp
      refine (pmcell root ((celAt zs c.l).r) Jn12.out.bi.2).mono ?_
      rintro e wn13 ⟨rfl, hbn13⟩
      have Jn13 := Lib.hid (Jn12.out.below hbn13)
      clear hbn13
      try go_wp2_with fail
      refine hK.out _ _ (⟨Jn13.out.scells, Jn13.out.box (List.mem_cons_of_mem _ (List.mem_cons_self ..))⟩) (fun hHeld11 => ?_)
      clear hK K
      try simp only [Act.put, List.getElem_toArray, List.getElem_cons_zero, List.getElem_cons_succ, List.setIfInBounds_toArray, List.set_cons_zero, List.set_cons_succ]
      refine wpAnyH_ready (rs := [8]) (by kernel_rfl) (by simp) ?_
      refine AllReadyH.cons rfl (fun K hK => ?_) AllReadyH.nil
      rw [if_pos (by rfl)]
      refine wp_store_cel (.tmp 6) (.tmp 20) rfl g6 (⟨(celAt zs (celAt zs c.l).r).l, (celAt zs (celAt zs c.l).r).r, (celAt zs (celAt zs c.l).r).k, (celAt zs (celAt zs c.l).r).v, (celAt zs (celAt zs c.l).r).s, (celAt zs (celAt zs c.l).r).h⟩) ⟨0, 0, 0, 0, 0, 0⟩ rfl rfl (Jn13.out.at_ (List.mem_cons_self ..)) ?_
      intro wn14 hstn14
      have Jn14 : Hid (BS B (.pointer a) root had room w o wn14 o zs why [(g6, boxC ⟨(celAt zs (celAt zs c.l).r).l, (celAt zs (celAt zs c.l).r).r, (celAt zs (celAt zs c.l).r).k, (celAt zs (celAt zs c.l).r).v, (celAt zs (celAt zs c.l).r).s, (celAt zs (celAt zs c.l).r).h⟩), (g5, boxC ⟨(celAt zs c.l).l, (celAt zs c.l).r, (celAt zs c.l).k, (celAt zs c.l).v, (celAt zs c.l).s, (celAt zs c.l).h⟩), (w.heap.size, boxC ⟨c.l, c.r, c.k, c.v, c.s, c.h⟩)]) := Lib.hid (Jn13.out.store hstn14)
      clear hstn14
      refine hK.out _ _ (⟨Jn14.out.scells, Jn14.out.box (List.mem_cons_of_mem _ (List.mem_cons_self ..))⟩) (fun hHeld12 => ?_)
      clear hK K
      try simp only [Act.put, List.getElem_toArray, List.getElem_cons_zero, List.getElem_cons_succ]
      refine wpAnyH_done (by kernel_rfl) ?_ _
      go_wp2_with fail
      go_meet
      case rel => exact ⟨g6, rfl, Jn14⟩
    exact AllReadyH.nil
  case rest =>
  obtain ⟨g6, rfl, JCg6⟩ := hcut
  have hfh := fld_h
  go_upto_region 3 with fail
  have JD15 := Lib.hid JCg6.out.drew
  refine wp_region_held_drew (S := (fun X => (X.cell? ⟨B, 0, none⟩ = some (.pointer a) ∧ X.cell? ⟨B, 1, none⟩ = some (.int .i64 root)) ∧ (X.cell? ⟨g5, 0, none⟩ = some (.int .i64 (celAt zs c.l).l) ∧ X.cell? ⟨g5, 1, none⟩ = some (.int .i64 (celAt zs c.l).r) ∧ X.cell? ⟨g5, 2, none⟩ = some (.int .i64 (celAt zs c.l).k) ∧ X.cell? ⟨g5, 3, none⟩ = some (.int .i64 (celAt zs c.l).v) ∧ X.cell? ⟨g5, 4, none⟩ = some (.int .i64 (celAt zs c.l).s) ∧ X.cell? ⟨g5, 5, none⟩ = some (.int .i64 (celAt zs c.l).h)) ∧ (X.cell? ⟨g6, 0, none⟩ = some (.int .i64 (celAt zs (celAt zs c.l).r).l) ∧ X.cell? ⟨g6, 1, none⟩ = some (.int .i64 (celAt zs (celAt zs c.l).r).r) ∧ X.cell? ⟨g6, 2, none⟩ = some (.int .i64 (celAt zs (celAt zs c.l).r).k) ∧ X.cell? ⟨g6, 3, none⟩ = some (.int .i64 (celAt zs (celAt zs c.l).r).v) ∧ X.cell? ⟨g6, 4, none⟩ = some (.int .i64 (celAt zs (celAt zs c.l).r).s) ∧ X.cell? ⟨g6, 5, none⟩ = some (.int .i64 (celAt zs (celAt zs c.l).r).h)))) (by kernel_rfl) (⟨JD15.out.scells, JD15.out.box (List.mem_cons_of_mem _ (List.mem_cons_self ..)), JD15.out.box (List.mem_cons_self ..)⟩) (fun hHeld0 => ?_)
  refine wpAnyH_take (i := 0) (v := ?_) rfl (by kernel_rfl) (by kernel_rfl) (by kernel_rfl) (fun _ _ _ h => h) (Or.inl ⟨by rfl, ?ybturnR_bz1⟩) (by assumption) ?qbturnR_bz1
  case ybturnR_bz1 => (intro wz hSw; (try dsimp only at hSw); go_simp <;> with_reducible rfl)
  try simp only [Act.put, List.getElem_toArray, List.getElem_cons_zero, List.setIfInBounds_toArray, List.set_cons_zero, List.set_cons_succ]
  refine wpAnyH_take (i := 1) (v := ?_) rfl (by kernel_rfl) (by kernel_rfl) (by kernel_rfl) (fun _ _ _ h => h) (Or.inl ⟨by rfl, ?ybturnR_bz2⟩) (by assumption) ?qbturnR_bz2
  case ybturnR_bz2 => (intro wz hSw; (try dsimp only at hSw); go_simp <;> with_reducible rfl)
  try simp only [Act.put, List.getElem_toArray, List.getElem_cons_zero, List.getElem_cons_succ, List.setIfInBounds_toArray, List.set_cons_zero, List.set_cons_succ]
  refine wpAnyH_take (i := 2) (v := ?_) rfl (by kernel_rfl) (by kernel_rfl) (by kernel_rfl) (fun _ _ _ h => h) (Or.inl ⟨by rfl, ?ybturnR_bz3⟩) (by assumption) ?qbturnR_bz3
  case ybturnR_bz3 => (intro wz hSw; (try dsimp only at hSw); go_simp <;> with_reducible rfl)
  try simp only [Act.put, List.getElem_toArray, List.getElem_cons_zero, List.getElem_cons_succ, List.setIfInBounds_toArray, List.set_cons_zero, List.set_cons_succ]
  refine wpAnyH_take (i := 3) (v := ?_) rfl (by kernel_rfl) (by kernel_rfl) (by kernel_rfl) (fun _ _ _ h => h) (Or.inl ⟨by rfl, ?ybturnR_bz4⟩) (by assumption) ?qbturnR_bz4
  case ybturnR_bz4 => (intro wz hSw; (try dsimp only at hSw); go_simp <;> with_reducible rfl)
  try simp only [Act.put, List.getElem_toArray, List.getElem_cons_zero, List.getElem_cons_succ, List.setIfInBounds_toArray, List.set_cons_zero, List.set_cons_succ]
  refine wpAnyH_take (i := 4) (v := ?_) rfl (by kernel_rfl) (by kernel_rfl) (by kernel_rfl) (fun _ _ _ h => h) (Or.inl ⟨by rfl, ?ybturnR_bz5⟩) (by assumption) ?qbturnR_bz5
  case ybturnR_bz5 => (intro wz hSw; (try dsimp only at hSw); go_simp <;> with_reducible rfl)
  try simp only [Act.put, List.getElem_toArray, List.getElem_cons_zero, List.getElem_cons_succ, List.setIfInBounds_toArray, List.set_cons_zero, List.set_cons_succ]
  refine wpAnyH_take (i := 5) (v := ?_) rfl (by kernel_rfl) (by kernel_rfl) (by kernel_rfl) (fun _ _ _ h => h) (Or.inl ⟨by rfl, ?ybturnR_bz6⟩) (by assumption) ?qbturnR_bz6
  case ybturnR_bz6 => (intro wz hSw; (try dsimp only at hSw); go_simp <;> with_reducible rfl)
  try simp only [Act.put, List.getElem_toArray, List.getElem_cons_zero, List.getElem_cons_succ, List.setIfInBounds_toArray, List.set_cons_zero, List.set_cons_succ]
  refine wpAnyH_take (i := 8) (v := ?_) rfl (by kernel_rfl) (by kernel_rfl) (by kernel_rfl) (fun _ _ _ h => h) (Or.inl ⟨by rfl, ?ybturnR_bz7⟩) (by assumption) ?qbturnR_bz7
  case ybturnR_bz7 => (intro wz hSw; (try dsimp only at hSw); go_simp <;> with_reducible rfl)
  try simp only [Act.put, List.getElem_toArray, List.getElem_cons_zero, List.getElem_cons_succ, List.setIfInBounds_toArray, List.set_cons_zero, List.set_cons_succ]
  refine wpAnyH_take (i := 9) (v := ?_) rfl (by kernel_rfl) (by kernel_rfl) (by kernel_rfl) (fun _ _ _ h => h) (Or.inl ⟨by rfl, ?ybturnR_bz8⟩) (by assumption) ?qbturnR_bz8
  case ybturnR_bz8 => (intro wz hSw; (try dsimp only at hSw); go_simp <;> with_reducible rfl)
  try simp only [Act.put, List.getElem_toArray, List.getElem_cons_zero, List.getElem_cons_succ, List.setIfInBounds_toArray, List.set_cons_zero, List.set_cons_succ]
  refine wpAnyH_ready (rs := [6]) (by kernel_rfl) (by simp) ?_
  refine AllReadyH.cons rfl (fun K hK => ?_) AllReadyH.nil
  go_simp
  refine (pmcell root ((celAt zs c.l).l) JD15.out.bi.2).mono ?_
  rintro e wn16 ⟨rfl, hbn16⟩
  have Jn16 := Lib.hid (JD15.out.below hbn16)
  clear hbn16
  try go_wp2_with fail
  refine hK.out _ _ (⟨Jn16.out.scells, Jn16.out.box (List.mem_cons_of_mem _ (List.mem_cons_self ..)), Jn16.out.box (List.mem_cons_self ..)⟩) (fun hHeld9 => ?_)
  clear hK K
  try simp only [Act.put, List.getElem_toArray, List.getElem_cons_zero, List.getElem_cons_succ, List.setIfInBounds_toArray, List.set_cons_zero, List.set_cons_succ]
  refine wpAnyH_take (i := 7) (v := ?_) rfl (by kernel_rfl) (by kernel_rfl) (by kernel_rfl) (fun _ _ _ h => h) (Or.inl ⟨by rfl, ?ybturnR_bz10⟩) (by assumption) ?qbturnR_bz10
  case ybturnR_bz10 => (intro wz hSw; (try dsimp only at hSw); go_simp <;> with_reducible rfl)
  try simp only [Act.put, List.getElem_toArray, List.getElem_cons_zero, List.getElem_cons_succ, List.setIfInBounds_toArray, List.set_cons_zero, List.set_cons_succ]
  refine wpAnyH_take (i := 10) (v := ?_) rfl (by kernel_rfl) (by kernel_rfl) (by kernel_rfl) (fun _ _ _ h => h) (Or.inl ⟨by rfl, ?ybturnR_bz11⟩) (by assumption) ?qbturnR_bz11
  case ybturnR_bz11 => (intro wz hSw; (try dsimp only at hSw); go_simp <;> with_reducible rfl)
  try simp only [Act.put, List.getElem_toArray, List.getElem_cons_zero, List.getElem_cons_succ, List.setIfInBounds_toArray, List.set_cons_zero, List.set_cons_succ]
  refine wpAnyH_done (by kernel_rfl) ?_ _
  go_upto_region 7 with fail
  have JD17 := Lib.hid Jn16.out.drew
  refine wp_region_held_drew (S := (fun X => (X.cell? ⟨g6, 0, none⟩ = some (.int .i64 (celAt zs (celAt zs c.l).r).l) ∧ X.cell? ⟨g6, 1, none⟩ = some (.int .i64 (celAt zs (celAt zs c.l).r).r) ∧ X.cell? ⟨g6, 2, none⟩ = some (.int .i64 (celAt zs (celAt zs c.l).r).k) ∧ X.cell? ⟨g6, 3, none⟩ = some (.int .i64 (celAt zs (celAt zs c.l).r).v) ∧ X.cell? ⟨g6, 4, none⟩ = some (.int .i64 (celAt zs (celAt zs c.l).r).s) ∧ X.cell? ⟨g6, 5, none⟩ = some (.int .i64 (celAt zs (celAt zs c.l).r).h)))) (by kernel_rfl) (JD17.out.box (List.mem_cons_self ..)) (fun hHeld0 => ?_)
  refine wpAnyH_take (i := 0) (v := ?_) rfl (by kernel_rfl) (by kernel_rfl) (by kernel_rfl) (fun _ _ _ h => h) (Or.inl ⟨by rfl, ?ybturnR_bu1⟩) (by assumption) ?qbturnR_bu1
  case ybturnR_bu1 => (intro wz hSw; (try dsimp only at hSw); go_simp <;> with_reducible rfl)
  try simp only [Act.put, List.getElem_toArray, List.getElem_cons_zero, List.setIfInBounds_toArray, List.set_cons_zero, List.set_cons_succ]
  refine wpAnyH_take (i := 1) (v := ?_) rfl (by kernel_rfl) (by kernel_rfl) (by kernel_rfl) (fun _ _ _ h => h) (Or.inl ⟨by rfl, ?ybturnR_bu2⟩) (by assumption) ?qbturnR_bu2
  case ybturnR_bu2 => (intro wz hSw; (try dsimp only at hSw); go_simp <;> with_reducible rfl)
  try simp only [Act.put, List.getElem_toArray, List.getElem_cons_zero, List.getElem_cons_succ, List.setIfInBounds_toArray, List.set_cons_zero, List.set_cons_succ]
  refine wpAnyH_take (i := 2) (v := ?_) rfl (by kernel_rfl) (by kernel_rfl) (by kernel_rfl) (fun _ _ _ h => h) (Or.inl ⟨by rfl, ?ybturnR_bu3⟩) (by assumption) ?qbturnR_bu3
  case ybturnR_bu3 => (intro wz hSw; (try dsimp only at hSw); go_simp <;> with_reducible rfl)
  try simp only [Act.put, List.getElem_toArray, List.getElem_cons_zero, List.getElem_cons_succ, List.setIfInBounds_toArray, List.set_cons_zero, List.set_cons_succ]
  refine wpAnyH_take (i := 3) (v := ?_) rfl (by kernel_rfl) (by kernel_rfl) (by kernel_rfl) (fun _ _ _ h => h) (Or.inl ⟨by rfl, ?ybturnR_bu4⟩) (by assumption) ?qbturnR_bu4
  case ybturnR_bu4 => (intro wz hSw; (try dsimp only at hSw); go_simp <;> with_reducible rfl)
  try simp only [Act.put, List.getElem_toArray, List.getElem_cons_zero, List.getElem_cons_succ, List.setIfInBounds_toArray, List.set_cons_zero, List.set_cons_succ]
  refine wpAnyH_take (i := 4) (v := ?_) rfl (by kernel_rfl) (by kernel_rfl) (by kernel_rfl) (fun _ _ _ h => h) (Or.inl ⟨by rfl, ?ybturnR_bu5⟩) (by assumption) ?qbturnR_bu5
  case ybturnR_bu5 => (intro wz hSw; (try dsimp only at hSw); go_simp <;> with_reducible rfl)
  try simp only [Act.put, List.getElem_toArray, List.getElem_cons_zero, List.getElem_cons_succ, List.setIfInBounds_toArray, List.set_cons_zero, List.set_cons_succ]
  refine wpAnyH_ready (rs := [5]) (by kernel_rfl) (by simp) ?_
  refine AllReadyH.cons rfl (fun K hK => ?_) AllReadyH.nil
  have JHn18 := Lib.hid JD17.out.swap
  rw [if_pos (by rfl)]
  refine wp_store_fld (.tmp 46) (.tmp 43) rfl g5 1 ((celAt zs (celAt zs c.l).r).l) ⟨(celAt zs c.l).l, (celAt zs c.l).r, (celAt zs c.l).k, (celAt zs c.l).v, (celAt zs c.l).s, (celAt zs c.l).h⟩ ⟨(celAt zs c.l).l, (celAt zs (celAt zs c.l).r).l, (celAt zs c.l).k, (celAt zs c.l).v, (celAt zs c.l).s, (celAt zs c.l).h⟩ (by decide) rfl rfl (JHn18.out.at_ (List.mem_cons_self ..)) rfl ?_
  intro wn18 hstn18
  have Jn18 : Hid (BS B (.pointer a) root had room w o wn18 o zs why [(g5, boxC ⟨(celAt zs c.l).l, (celAt zs (celAt zs c.l).r).l, (celAt zs c.l).k, (celAt zs c.l).v, (celAt zs c.l).s, (celAt zs c.l).h⟩), (g6, boxC ⟨(celAt zs (celAt zs c.l).r).l, (celAt zs (celAt zs c.l).r).r, (celAt zs (celAt zs c.l).r).k, (celAt zs (celAt zs c.l).r).v, (celAt zs (celAt zs c.l).r).s, (celAt zs (celAt zs c.l).r).h⟩), (w.heap.size, boxC ⟨c.l, c.r, c.k, c.v, c.s, c.h⟩)]) := Lib.hid (JHn18.out.store hstn18)
  clear hstn18
  refine hK.out _ _ (Jn18.out.box (List.mem_cons_of_mem _ (List.mem_cons_self ..))) (fun hHeld6 => ?_)
  clear hK K
  try simp only [Act.put, List.getElem_toArray, List.getElem_cons_zero, List.getElem_cons_succ]
  refine wpAnyH_take (i := 6) (v := ?_) rfl (by kernel_rfl) (by kernel_rfl) (by kernel_rfl) (fun _ _ _ h => h) (Or.inl ⟨by rfl, ?ybturnR_bu7⟩) (by assumption) ?qbturnR_bu7
  case ybturnR_bu7 => (intro wz hSw; (try dsimp only at hSw); go_simp <;> with_reducible rfl)
  try simp only [Act.put, List.getElem_toArray, List.getElem_cons_zero, List.getElem_cons_succ, List.setIfInBounds_toArray, List.set_cons_zero, List.set_cons_succ]
  refine wpAnyH_ready (rs := [7]) (by kernel_rfl) (by simp) ?_
  refine AllReadyH.cons rfl (fun K hK => ?_) AllReadyH.nil
  have JHn19 := Lib.hid Jn18.out.rot
  rw [if_pos (by rfl)]
  refine wp_store_fld (.tmp 47) (.tmp 45) rfl w.heap.size 0 ((celAt zs (celAt zs c.l).r).r) ⟨c.l, c.r, c.k, c.v, c.s, c.h⟩ ⟨(celAt zs (celAt zs c.l).r).r, c.r, c.k, c.v, c.s, c.h⟩ (by decide) rfl rfl (JHn19.out.at_ (List.mem_cons_self ..)) rfl ?_
  intro wn19 hstn19
  have Jn19 : Hid (BS B (.pointer a) root had room w o wn19 o zs why [(w.heap.size, boxC ⟨(celAt zs (celAt zs c.l).r).r, c.r, c.k, c.v, c.s, c.h⟩), (g5, boxC ⟨(celAt zs c.l).l, (celAt zs (celAt zs c.l).r).l, (celAt zs c.l).k, (celAt zs c.l).v, (celAt zs c.l).s, (celAt zs c.l).h⟩), (g6, boxC ⟨(celAt zs (celAt zs c.l).r).l, (celAt zs (celAt zs c.l).r).r, (celAt zs (celAt zs c.l).r).k, (celAt zs (celAt zs c.l).r).v, (celAt zs (celAt zs c.l).r).s, (celAt zs (celAt zs c.l).r).h⟩)]) := Lib.hid (JHn19.out.store hstn19)
  clear hstn19
  refine hK.out _ _ (Jn19.out.box (List.mem_cons_of_mem _ (List.mem_cons_of_mem _ (List.mem_cons_self ..)))) (fun hHeld8 => ?_)
  clear hK K
  try simp only [Act.put, List.getElem_toArray, List.getElem_cons_zero, List.getElem_cons_succ]
  refine wpAnyH_done (by kernel_rfl) ?_ _
  go_upto_region 8 with fail
  have JD20 := Lib.hid Jn19.out.drew
  refine wp_region_held_drew (S := (fun X => (X.cell? ⟨g5, 0, none⟩ = some (.int .i64 (celAt zs c.l).l) ∧ X.cell? ⟨g5, 1, none⟩ = some (.int .i64 (celAt zs (celAt zs c.l).r).l) ∧ X.cell? ⟨g5, 2, none⟩ = some (.int .i64 (celAt zs c.l).k) ∧ X.cell? ⟨g5, 3, none⟩ = some (.int .i64 (celAt zs c.l).v) ∧ X.cell? ⟨g5, 4, none⟩ = some (.int .i64 (celAt zs c.l).s) ∧ X.cell? ⟨g5, 5, none⟩ = some (.int .i64 (celAt zs c.l).h)) ∧ (X.cell? ⟨w.heap.size, 0, none⟩ = some (.int .i64 (celAt zs (celAt zs c.l).r).r) ∧ X.cell? ⟨w.heap.size, 1, none⟩ = some (.int .i64 c.r) ∧ X.cell? ⟨w.heap.size, 2, none⟩ = some (.int .i64 c.k) ∧ X.cell? ⟨w.heap.size, 3, none⟩ = some (.int .i64 c.v) ∧ X.cell? ⟨w.heap.size, 4, none⟩ = some (.int .i64 c.s) ∧ X.cell? ⟨w.heap.size, 5, none⟩ = some (.int .i64 c.h)))) (by kernel_rfl) (⟨JD20.out.box (List.mem_cons_of_mem _ (List.mem_cons_self ..)), JD20.out.box (List.mem_cons_self ..)⟩) (fun hHeld0 => ?_)
  refine wpAnyH_take (i := 0) (v := ?_) rfl (by kernel_rfl) (by kernel_rfl) (by kernel_rfl) (fun _ _ _ h => h) (Or.inl ⟨by rfl, ?ybturnR_bv1⟩) (by assumption) ?qbturnR_bv1
  case ybturnR_bv1 => (intro wz hSw; (try dsimp only at hSw); go_simp <;> with_reducible rfl)
  try simp only [Act.put, List.getElem_toArray, List.getElem_cons_zero, List.setIfInBounds_toArray, List.set_cons_zero, List.set_cons_succ]
  refine wpAnyH_take (i := 1) (v := ?_) rfl (by kernel_rfl) (by kernel_rfl) (by kernel_rfl) (fun _ _ _ h => h) (Or.inl ⟨by rfl, ?ybturnR_bv2⟩) (by assumption) ?qbturnR_bv2
  case ybturnR_bv2 => (intro wz hSw; (try dsimp only at hSw); go_simp <;> with_reducible rfl)
  try simp only [Act.put, List.getElem_toArray, List.getElem_cons_zero, List.getElem_cons_succ, List.setIfInBounds_toArray, List.set_cons_zero, List.set_cons_succ]
  refine wpAnyH_take (i := 3) (v := ?_) rfl (by kernel_rfl) (by kernel_rfl) (by kernel_rfl) (fun _ _ _ h => h) (Or.inl ⟨by rfl, ?ybturnR_bv3⟩) (by assumption) ?qbturnR_bv3
  case ybturnR_bv3 => (intro wz hSw; (try dsimp only at hSw); go_simp <;> with_reducible rfl)
  try simp only [Act.put, List.getElem_toArray, List.getElem_cons_zero, List.getElem_cons_succ, List.setIfInBounds_toArray, List.set_cons_zero, List.set_cons_succ]
  refine wpAnyH_take (i := 4) (v := ?_) rfl (by kernel_rfl) (by kernel_rfl) (by kernel_rfl) (fun _ _ _ h => h) (Or.inl ⟨by rfl, ?ybturnR_bv4⟩) (by assumption) ?qbturnR_bv4
  case ybturnR_bv4 => (intro wz hSw; (try dsimp only at hSw); go_simp <;> with_reducible rfl)
  try simp only [Act.put, List.getElem_toArray, List.getElem_cons_zero, List.getElem_cons_succ, List.setIfInBounds_toArray, List.set_cons_zero, List.set_cons_succ]
  refine wpAnyH_ready (rs := [2]) (by kernel_rfl) (by simp) ?_
  refine AllReadyH.cons rfl (fun K hK => ?_) AllReadyH.nil
  go_simp
  refine (B1.out _ _ JD20.out.bi).mono ?_
  intro e wn21 hsn21
  obtain ⟨rfl, on21, Jn21⟩ := JD20.out.call hsn21
  clear hsn21
  try go_wp2_with fail
  refine hK.out _ _ (⟨Jn21.out.box (List.mem_cons_of_mem _ (List.mem_cons_self ..)), Jn21.out.box (List.mem_cons_self ..)⟩) (fun hHeld5 => ?_)
  clear hK K
  try simp only [Act.put, List.getElem_toArray, List.getElem_cons_zero, List.getElem_cons_succ, List.setIfInBounds_toArray, List.set_cons_zero, List.set_cons_succ]
  refine wpAnyH_take (i := 6) (v := ?_) rfl (by kernel_rfl) (by kernel_rfl) (by kernel_rfl) (fun _ _ _ h => h) (Or.inl ⟨by rfl, ?ybturnR_bv6⟩) (by assumption) ?qbturnR_bv6
  case ybturnR_bv6 => (intro wz hSw; (try dsimp only at hSw); go_simp <;> with_reducible rfl)
  try simp only [Act.put, List.getElem_toArray, List.getElem_cons_zero, List.getElem_cons_succ, List.setIfInBounds_toArray, List.set_cons_zero, List.set_cons_succ]
  refine wpAnyH_ready (rs := [5]) (by kernel_rfl) (by simp) ?_
  refine AllReadyH.cons rfl (fun K hK => ?_) AllReadyH.nil
  go_simp
  refine (B2.out _ _ Jn21.out.bi).mono ?_
  intro e wn22 hsn22
  obtain ⟨rfl, on22, Jn22⟩ := Jn21.out.call hsn22
  clear hsn22
  try go_wp2_with fail
  refine hK.out _ _ (⟨Jn22.out.box (List.mem_cons_of_mem _ (List.mem_cons_self ..)), Jn22.out.box (List.mem_cons_self ..)⟩) (fun hHeld7 => ?_)
  clear hK K
  try simp only [Act.put, List.getElem_toArray, List.getElem_cons_zero, List.getElem_cons_succ, List.setIfInBounds_toArray, List.set_cons_zero, List.set_cons_succ]
  refine wpAnyH_ready (rs := [7]) (by kernel_rfl) (by simp) ?_
  refine AllReadyH.cons rfl (fun K hK => ?_) AllReadyH.nil
  have JHn23 := Lib.hid Jn22.out.rot
  rw [if_pos (by rfl)]
  refine wp_store_fld (.tmp 54) (.tmp 50) rfl g6 0 (i1) ⟨(celAt zs (celAt zs c.l).r).l, (celAt zs (celAt zs c.l).r).r, (celAt zs (celAt zs c.l).r).k, (celAt zs (celAt zs c.l).r).v, (celAt zs (celAt zs c.l).r).s, (celAt zs (celAt zs c.l).r).h⟩ ⟨i1, (celAt zs (celAt zs c.l).r).r, (celAt zs (celAt zs c.l).r).k, (celAt zs (celAt zs c.l).r).v, (celAt zs (celAt zs c.l).r).s, (celAt zs (celAt zs c.l).r).h⟩ (by decide) rfl rfl (JHn23.out.at_ (List.mem_cons_self ..)) rfl ?_
  intro wn23 hstn23
  have Jn23 : Hid (BS B (.pointer a) root had room w o wn23 on22 zs2 why2 [(g6, boxC ⟨i1, (celAt zs (celAt zs c.l).r).r, (celAt zs (celAt zs c.l).r).k, (celAt zs (celAt zs c.l).r).v, (celAt zs (celAt zs c.l).r).s, (celAt zs (celAt zs c.l).r).h⟩), (w.heap.size, boxC ⟨(celAt zs (celAt zs c.l).r).r, c.r, c.k, c.v, c.s, c.h⟩), (g5, boxC ⟨(celAt zs c.l).l, (celAt zs (celAt zs c.l).r).l, (celAt zs c.l).k, (celAt zs c.l).v, (celAt zs c.l).s, (celAt zs c.l).h⟩)]) := Lib.hid (JHn23.out.store hstn23)
  clear hstn23
  refine hK.out _ _ (⟨Jn23.out.box (List.mem_cons_of_mem _ (List.mem_cons_of_mem _ (List.mem_cons_self ..))), Jn23.out.box (List.mem_cons_of_mem _ (List.mem_cons_self ..))⟩) (fun hHeld8 => ?_)
  clear hK K
  try simp only [Act.put, List.getElem_toArray, List.getElem_cons_zero, List.getElem_cons_succ]
  refine wpAnyH_take (i := 8) (v := ?_) rfl (by kernel_rfl) (by kernel_rfl) (by kernel_rfl) (fun _ _ _ h => h) (Or.inl ⟨by rfl, ?ybturnR_bv9⟩) (by assumption) ?qbturnR_bv9
  case ybturnR_bv9 => (intro wz hSw; (try dsimp only at hSw); go_simp <;> with_reducible rfl)
  try simp only [Act.put, List.getElem_toArray, List.getElem_cons_zero, List.getElem_cons_succ, List.setIfInBounds_toArray, List.set_cons_zero, List.set_cons_succ]
  refine wpAnyH_ready (rs := [9]) (by kernel_rfl) (by simp) ?_
  refine AllReadyH.cons rfl (fun K hK => ?_) AllReadyH.nil
  rw [if_pos (by rfl)]
  refine wp_store_fld (.tmp 55) (.tmp 53) rfl g6 1 (i2) ⟨i1, (celAt zs (celAt zs c.l).r).r, (celAt zs (celAt zs c.l).r).k, (celAt zs (celAt zs c.l).r).v, (celAt zs (celAt zs c.l).r).s, (celAt zs (celAt zs c.l).r).h⟩ ⟨i1, i2, (celAt zs (celAt zs c.l).r).k, (celAt zs (celAt zs c.l).r).v, (celAt zs (celAt zs c.l).r).s, (celAt zs (celAt zs c.l).r).h⟩ (by decide) rfl rfl (Jn23.out.at_ (List.mem_cons_self ..)) rfl ?_
  intro wn24 hstn24
  have Jn24 : Hid (BS B (.pointer a) root had room w o wn24 on22 zs2 why2 [(g6, boxC ⟨i1, i2, (celAt zs (celAt zs c.l).r).k, (celAt zs (celAt zs c.l).r).v, (celAt zs (celAt zs c.l).r).s, (celAt zs (celAt zs c.l).r).h⟩), (w.heap.size, boxC ⟨(celAt zs (celAt zs c.l).r).r, c.r, c.k, c.v, c.s, c.h⟩), (g5, boxC ⟨(celAt zs c.l).l, (celAt zs (celAt zs c.l).r).l, (celAt zs c.l).k, (celAt zs c.l).v, (celAt zs c.l).s, (celAt zs c.l).h⟩)]) := Lib.hid (Jn23.out.store hstn24)
  clear hstn24
  refine hK.out _ _ (⟨Jn24.out.box (List.mem_cons_of_mem _ (List.mem_cons_of_mem _ (List.mem_cons_self ..))), Jn24.out.box (List.mem_cons_of_mem _ (List.mem_cons_self ..))⟩) (fun hHeld10 => ?_)
  clear hK K
  try simp only [Act.put, List.getElem_toArray, List.getElem_cons_zero, List.getElem_cons_succ]
  refine wpAnyH_done (by kernel_rfl) ?_ _
  obtain ⟨a0, a1, a2, a3, a4, a5⟩ := Jn24.out.box (List.mem_cons_self ..)
  go_wp2_with fail
  refine (B3.out _ _ Jn24.out.bi).mono ?_
  intro e wm25 hsm25
  obtain ⟨rfl, om25, Jm25⟩ := Jn24.out.call hsm25
  clear hsm25
  go_wp2_with fail
  go_ret
  exact Jm25.out.done _
theorem bturnR {w : World} {B : Nat} {pv : Value} {o : Option Nat} {root had : Int} {room : Nat} {zs : List Cel} {why : Int} (c : Cel) (h : BI w B pv o root had room zs why) (hc : fitC c zs.length) (hok : c.ok) :
    Calls Try.prog 92 #[.pointer (some ⟨B, 0, none⟩), .agg #[.int .i64 c.l, .int .i64 c.r, .int .i64 c.k, .int .i64 c.v, .int .i64 c.s, .int .i64 c.h]] w (BP B pv o root had room (turnRM room zs why c).1 (turnRM room zs why c).2.1 (.int .i64 (turnRM room zs why c).2.2) w) := by
  by_cases hcd : (celAt zs (celAt zs c.l).r).h ≤ (celAt zs (celAt zs c.l).l).h
  · exact bturnR_a c h hc hok hcd
  · exact bturnR_b c h hc hok hcd
end Go.Proofs.Ytpbkclciipmonaa.F
