/-
  Contract of the editor's turnRight. Not a statement of the seat.
-/
import Derived.Test.YtbgepeokadmemaaPsPut
import Derived.Deep.Cut
import Derived.Deep.CutRange
import Derived.Deep.DeepCutAuto
import Derived.Deep.RegionHeld3
namespace Go.Proofs.Ytbgepeokadmemaa.F
open Go.ChangeShapes Go.WideShapes Go.ChangeAt Go.RowKit Base
/-- What the editor's turns make. -/
def turnRS (room : Nat) (zs : List Cel) (why : Int) (c : Cel) (val right : Int) : List Cel × Int × Int :=
  if (celAt zs c.r).h ≤ (celAt zs c.l).h then
    putM room (putM room zs why ⟨c.r, right, 0, val, 0, 0⟩).1 (putM room zs why ⟨c.r, right, 0, val, 0, 0⟩).2.1 ⟨c.l, (putM room zs why ⟨c.r, right, 0, val, 0, 0⟩).2.2, 0, c.v, 0, 0⟩
  else
    let m := celAt zs c.r
    let p1 := putM room zs why ⟨c.l, m.l, 0, c.v, 0, 0⟩
    let p2 := putM room p1.1 p1.2.1 ⟨m.r, right, 0, val, 0, 0⟩
    putM room p2.1 p2.2.1 ⟨p1.2.2, p2.2.2, 0, m.v, 0, 0⟩
def turnLS (room : Nat) (zs : List Cel) (why : Int) (left val : Int) (c : Cel) : List Cel × Int × Int :=
  if (celAt zs c.l).h ≤ (celAt zs c.r).h then
    putM room (putM room zs why ⟨left, c.l, 0, val, 0, 0⟩).1 (putM room zs why ⟨left, c.l, 0, val, 0, 0⟩).2.1 ⟨(putM room zs why ⟨left, c.l, 0, val, 0, 0⟩).2.2, c.r, 0, c.v, 0, 0⟩
  else
    let m := celAt zs c.l
    let p1 := putM room zs why ⟨left, m.l, 0, val, 0, 0⟩
    let p2 := putM room p1.1 p1.2.1 ⟨m.r, c.r, 0, c.v, 0, 0⟩
    putM room p2.1 p2.2.1 ⟨p1.2.2, p2.2.2, 0, m.v, 0, 0⟩
set_option maxHeartbeats 8000000 in
set_option maxRecDepth 100000 in
theorem eturnR_a {w : World} {B : Nat} {pv : Value} {o : Option Nat} {root had : Int} {room : Nat} {zs : List Cel} {why : Int} (c : Cel) (val right : Int) (h : EDI w B pv o root had room zs why) (hc : fitC c zs.length) (hok : c.ok) (hx : 0 ≤ right ∧ right ≤ (zs.length : Int)) (hv : -9223372036854775808 ≤ val ∧ val ≤ 9223372036854775807) (hcd : (celAt zs c.r).h ≤ (celAt zs c.l).h) :
    Calls Try.prog 49 #[.pointer (some ⟨B, 0, none⟩), .agg #[.int .i64 c.l, .int .i64 c.r, .int .i64 c.k, .int .i64 c.v, .int .i64 c.s, .int .i64 c.h], .int .i64 val, .int .i64 right] w (EDP B pv o root had room (turnRS room zs why c val right).1 (turnRS room zs why c val right).2.1 (.int .i64 (turnRS room zs why c val right).2.2) w) := by
  obtain ⟨a, rfl⟩ : ∃ a, pv = .pointer a := by
    rcases h.2 with ⟨rfl, _⟩ | ⟨b, rfl, _⟩
    · exact ⟨_, rfl⟩
    · exact ⟨_, rfl⟩
  have hbk := h.2.bk
  have hle := h.2.le
  have hoks := h.2.oks
  have hmf := celAt_fit hbk (c.r)
  have hmo := celAt_ok hoks (c.r)
  have hol := celAt_ok hoks (c.l)
  unfold turnRS
  rw [if_pos hcd]
  have hp1 := putM_le room zs why ⟨c.r, right, 0, val, 0, 0⟩
  have hq1 := putM_le2 room zs why ⟨c.r, right, 0, val, 0, 0⟩
  have B1 : Hid (∀ (X : World) (o : Option Nat), EDI X B (.pointer a) o root had room zs why → Calls Try.prog 35 #[.pointer (some ⟨B, 0, none⟩), .int .i64 c.r, .int .i64 val, .int .i64 right] X (EDP B (.pointer a) o root had room (putM room zs why ⟨c.r, right, 0, val, 0, 0⟩).1 (putM room zs why ⟨c.r, right, 0, val, 0, 0⟩).2.1 (.int .i64 (putM room zs why ⟨c.r, right, 0, val, 0, 0⟩).2.2) X)) := Lib.hid fun X o h => eput (c.r) (val) (right) h (by unfold fitC at *; simp only at *; omega) (by unfold Cel.ok at *; simp only at *; omega)
  generalize putM room zs why ⟨c.r, right, 0, val, 0, 0⟩ = q1 at hp1 hq1 B1 ⊢
  obtain ⟨zs1, why1, i1⟩ := q1
  simp only at hp1 hq1 B1 ⊢
  have hp2 := putM_le room zs1 why1 ⟨c.l, i1, 0, c.v, 0, 0⟩
  have hq2 := putM_le2 room zs1 why1 ⟨c.l, i1, 0, c.v, 0, 0⟩
  have B2 : Hid (∀ (X : World) (o : Option Nat), EDI X B (.pointer a) o root had room zs1 why1 → Calls Try.prog 35 #[.pointer (some ⟨B, 0, none⟩), .int .i64 c.l, .int .i64 c.v, .int .i64 i1] X (EDP B (.pointer a) o root had room (putM room zs1 why1 ⟨c.l, i1, 0, c.v, 0, 0⟩).1 (putM room zs1 why1 ⟨c.l, i1, 0, c.v, 0, 0⟩).2.1 (.int .i64 (putM room zs1 why1 ⟨c.l, i1, 0, c.v, 0, 0⟩).2.2) X)) := Lib.hid fun X o h => eput (c.l) (c.v) (i1) h (by unfold fitC at *; simp only at *; omega) (by unfold Cel.ok at *; simp only at *; omega)
  generalize putM room zs1 why1 ⟨c.l, i1, 0, c.v, 0, 0⟩ = q2 at hp2 hq2 B2 ⊢
  obtain ⟨zs2, why2, i2⟩ := q2
  simp only at hp2 hq2 B2 ⊢
  have J0 : Hid (EDS B (.pointer a) root had room w o (w.alloc (boxC ⟨c.l, c.r, c.k, c.v, c.s, c.h⟩)) o zs why [(w.heap.size, boxC ⟨c.l, c.r, c.k, c.v, c.s, c.h⟩)]) := Lib.hid ((EDS.start h).alloc (boxC c))
  have hcd2 : (celAt zs c.l).h ≥ (celAt zs c.r).h := by omega
  clear h hc hok hbk hle hoks hmf hmo hol hcd hx hv hp1 hq1 hp2 hq2
  go_enter Try.func49, Try.ntmps49
  go_upto_region 1 with fail
  go_cut [9] (fun s9 wx => ∃ g9, s9 = .pointer (some ⟨g9, 0, none⟩) ∧ Hid (EDS B (.pointer a) root had room w o wx o zs why [(g9, boxC ⟨(celAt zs c.r).l, (celAt zs c.r).r, (celAt zs c.r).k, (celAt zs c.r).v, (celAt zs c.r).s, (celAt zs c.r).h⟩), (w.heap.size, boxC ⟨c.l, c.r, c.k, c.v, c.s, c.h⟩)]))
  case first =>
    have JD1 := Lib.hid J0.out.drew
    refine wp_region_held_drew (S := (fun X => (X.cell? ⟨B, 0, none⟩ = some (.pointer a) ∧ X.cell? ⟨B, 1, none⟩ = some (.int .i64 root)) ∧ (X.cell? ⟨w.heap.size, 0, none⟩ = some (.int .i64 c.l) ∧ X.cell? ⟨w.heap.size, 1, none⟩ = some (.int .i64 c.r) ∧ X.cell? ⟨w.heap.size, 2, none⟩ = some (.int .i64 c.k) ∧ X.cell? ⟨w.heap.size, 3, none⟩ = some (.int .i64 c.v) ∧ X.cell? ⟨w.heap.size, 4, none⟩ = some (.int .i64 c.s) ∧ X.cell? ⟨w.heap.size, 5, none⟩ = some (.int .i64 c.h)))) (by kernel_rfl) (⟨JD1.out.scells, JD1.out.box (List.mem_cons_self ..)⟩) (fun hHeld0 => ?_)
    refine wpAnyH_take (i := 0) (v := ?_) rfl (by kernel_rfl) (by kernel_rfl) (by kernel_rfl) (fun _ _ _ h => h) (Or.inl ⟨by rfl, ?yeturnR_ax1⟩) (by assumption) ?qeturnR_ax1
    case yeturnR_ax1 => (intro wz hSw; (try dsimp only at hSw); go_simp <;> with_reducible rfl)
    try simp only [Act.put, List.getElem_toArray, List.getElem_cons_zero, List.setIfInBounds_toArray, List.set_cons_zero, List.set_cons_succ]
    refine wpAnyH_take (i := 1) (v := ?_) rfl (by kernel_rfl) (by kernel_rfl) (by kernel_rfl) (fun _ _ _ h => h) (Or.inl ⟨by rfl, ?yeturnR_ax2⟩) (by assumption) ?qeturnR_ax2
    case yeturnR_ax2 => (intro wz hSw; (try dsimp only at hSw); go_simp <;> with_reducible rfl)
    try simp only [Act.put, List.getElem_toArray, List.getElem_cons_zero, List.getElem_cons_succ, List.setIfInBounds_toArray, List.set_cons_zero, List.set_cons_succ]
    refine wpAnyH_take (i := 2) (v := ?_) rfl (by kernel_rfl) (by kernel_rfl) (by kernel_rfl) (fun _ _ _ h => h) (Or.inl ⟨by rfl, ?yeturnR_ax3⟩) (by assumption) ?qeturnR_ax3
    case yeturnR_ax3 => (intro wz hSw; (try dsimp only at hSw); go_simp <;> with_reducible rfl)
    try simp only [Act.put, List.getElem_toArray, List.getElem_cons_zero, List.getElem_cons_succ, List.setIfInBounds_toArray, List.set_cons_zero, List.set_cons_succ]
    refine wpAnyH_take (i := 3) (v := ?_) rfl (by kernel_rfl) (by kernel_rfl) (by kernel_rfl) (fun _ _ _ h => h) (Or.inl ⟨by rfl, ?yeturnR_ax4⟩) (by assumption) ?qeturnR_ax4
    case yeturnR_ax4 => (intro wz hSw; (try dsimp only at hSw); go_simp <;> with_reducible rfl)
    try simp only [Act.put, List.getElem_toArray, List.getElem_cons_zero, List.getElem_cons_succ, List.setIfInBounds_toArray, List.set_cons_zero, List.set_cons_succ]
    refine wpAnyH_take (i := 4) (v := ?_) rfl (by kernel_rfl) (by kernel_rfl) (by kernel_rfl) (fun _ _ _ h => h) (Or.inl ⟨by rfl, ?yeturnR_ax5⟩) (by assumption) ?qeturnR_ax5
    case yeturnR_ax5 => (intro wz hSw; (try dsimp only at hSw); go_simp <;> with_reducible rfl)
    try simp only [Act.put, List.getElem_toArray, List.getElem_cons_zero, List.getElem_cons_succ, List.setIfInBounds_toArray, List.set_cons_zero, List.set_cons_succ]
    refine wpAnyH_take (i := 5) (v := ?_) rfl (by kernel_rfl) (by kernel_rfl) (by kernel_rfl) (fun _ _ _ h => h) (Or.inl ⟨by rfl, ?yeturnR_ax6⟩) (by assumption) ?qeturnR_ax6
    case yeturnR_ax6 => (intro wz hSw; (try dsimp only at hSw); go_simp <;> with_reducible rfl)
    try simp only [Act.put, List.getElem_toArray, List.getElem_cons_zero, List.getElem_cons_succ, List.setIfInBounds_toArray, List.set_cons_zero, List.set_cons_succ]
    refine wpAnyH_ready (rs := [6, 7]) (by kernel_rfl) (by simp) ?_
    refine AllReadyH.cons rfl (fun K hK => ?beturnR_ax7) ?ceturnR_ax7
    case beturnR_ax7 =>
      go_simp
      refine (pscell root (c.r) JD1.out.bi.2).mono ?_
      rintro e wn2 ⟨rfl, hbn2⟩
      have Jn2 := Lib.hid (JD1.out.below hbn2)
      clear hbn2
      try go_wp2_with fail
      refine hK.out _ _ (⟨Jn2.out.scells, Jn2.out.box (List.mem_cons_self ..)⟩) (fun hHeld7 => ?_)
      clear hK K
      try simp only [Act.put, List.getElem_toArray, List.getElem_cons_zero, List.getElem_cons_succ, List.setIfInBounds_toArray, List.set_cons_zero, List.set_cons_succ]
      refine wpAnyH_ready (rs := [7]) (by kernel_rfl) (by simp) ?_
      refine AllReadyH.cons rfl (fun K hK => ?_) AllReadyH.nil
      rw [if_pos (by rfl)]
      refine wp_alloc_cel rfl ?_
      intro g9 wn3 hgn3 hwn3
      have Jn3 : Hid (EDS B (.pointer a) root had room w o wn3 o zs why [(g9, boxC ⟨0, 0, 0, 0, 0, 0⟩), (w.heap.size, boxC ⟨c.l, c.r, c.k, c.v, c.s, c.h⟩)]) := Lib.hid (by rw [hgn3, hwn3]; exact Jn2.out.alloc (boxC Cel.zero))
      clear hgn3 hwn3
      refine hK.out _ _ (⟨Jn3.out.scells, Jn3.out.box (List.mem_cons_of_mem _ (List.mem_cons_self ..))⟩) (fun hHeld8 => ?_)
      clear hK K
      try simp only [Act.put, List.getElem_toArray, List.getElem_cons_zero, List.getElem_cons_succ, List.setIfInBounds_toArray, List.set_cons_zero, List.set_cons_succ]
      refine wpAnyH_ready (rs := [8]) (by kernel_rfl) (by simp) ?_
      refine AllReadyH.cons rfl (fun K hK => ?_) AllReadyH.nil
      rw [if_pos (by rfl)]
      refine wp_store_cel (.tmp 9) (.tmp 16) rfl g9 (⟨(celAt zs c.r).l, (celAt zs c.r).r, (celAt zs c.r).k, (celAt zs c.r).v, (celAt zs c.r).s, (celAt zs c.r).h⟩) ⟨0, 0, 0, 0, 0, 0⟩ rfl rfl (Jn3.out.at_ (List.mem_cons_self ..)) ?_
      intro wn4 hstn4
      have Jn4 : Hid (EDS B (.pointer a) root had room w o wn4 o zs why [(g9, boxC ⟨(celAt zs c.r).l, (celAt zs c.r).r, (celAt zs c.r).k, (celAt zs c.r).v, (celAt zs c.r).s, (celAt zs c.r).h⟩), (w.heap.size, boxC ⟨c.l, c.r, c.k, c.v, c.s, c.h⟩)]) := Lib.hid (Jn3.out.store hstn4)
      clear hstn4
      refine hK.out _ _ (⟨Jn4.out.scells, Jn4.out.box (List.mem_cons_of_mem _ (List.mem_cons_self ..))⟩) (fun hHeld9 => ?_)
      clear hK K
      try simp only [Act.put, List.getElem_toArray, List.getElem_cons_zero, List.getElem_cons_succ]
      refine wpAnyH_done (by kernel_rfl) ?_ _
      go_wp2_with fail
      go_meet
      case rel => exact ⟨g9, rfl, Jn4⟩
    refine AllReadyH.cons rfl (fun K hK => ?beturnR_ax10) ?ceturnR_ax10
    case beturnR_ax10 =>
      rw [if_pos (by rfl)]
      refine wp_alloc_cel rfl ?_
      intro g9 wn5 hgn5 hwn5
      have Jn5 : Hid (EDS B (.pointer a) root had room w o wn5 o zs why [(g9, boxC ⟨0, 0, 0, 0, 0, 0⟩), (w.heap.size, boxC ⟨c.l, c.r, c.k, c.v, c.s, c.h⟩)]) := Lib.hid (by rw [hgn5, hwn5]; exact JD1.out.alloc (boxC Cel.zero))
      clear hgn5 hwn5
      refine hK.out _ _ (⟨Jn5.out.scells, Jn5.out.box (List.mem_cons_of_mem _ (List.mem_cons_self ..))⟩) (fun hHeld10 => ?_)
      clear hK K
      try simp only [Act.put, List.getElem_toArray, List.getElem_cons_zero, List.getElem_cons_succ, List.setIfInBounds_toArray, List.set_cons_zero, List.set_cons_succ]
      refine wpAnyH_ready (rs := [6]) (by kernel_rfl) (by simp) ?_
      refine AllReadyH.cons rfl (fun K hK => ?_) AllReadyH.nil
      go_simp
      refine (pscell root (c.r) Jn5.out.bi.2).mono ?_
      rintro e wn6 ⟨rfl, hbn6⟩
      have Jn6 := Lib.hid (Jn5.out.below hbn6)
      clear hbn6
      try go_wp2_with fail
      refine hK.out _ _ (⟨Jn6.out.scells, Jn6.out.box (List.mem_cons_of_mem _ (List.mem_cons_self ..))⟩) (fun hHeld11 => ?_)
      clear hK K
      try simp only [Act.put, List.getElem_toArray, List.getElem_cons_zero, List.getElem_cons_succ, List.setIfInBounds_toArray, List.set_cons_zero, List.set_cons_succ]
      refine wpAnyH_ready (rs := [8]) (by kernel_rfl) (by simp) ?_
      refine AllReadyH.cons rfl (fun K hK => ?_) AllReadyH.nil
      rw [if_pos (by rfl)]
      refine wp_store_cel (.tmp 9) (.tmp 16) rfl g9 (⟨(celAt zs c.r).l, (celAt zs c.r).r, (celAt zs c.r).k, (celAt zs c.r).v, (celAt zs c.r).s, (celAt zs c.r).h⟩) ⟨0, 0, 0, 0, 0, 0⟩ rfl rfl (Jn6.out.at_ (List.mem_cons_self ..)) ?_
      intro wn7 hstn7
      have Jn7 : Hid (EDS B (.pointer a) root had room w o wn7 o zs why [(g9, boxC ⟨(celAt zs c.r).l, (celAt zs c.r).r, (celAt zs c.r).k, (celAt zs c.r).v, (celAt zs c.r).s, (celAt zs c.r).h⟩), (w.heap.size, boxC ⟨c.l, c.r, c.k, c.v, c.s, c.h⟩)]) := Lib.hid (Jn6.out.store hstn7)
      clear hstn7
      refine hK.out _ _ (⟨Jn7.out.scells, Jn7.out.box (List.mem_cons_of_mem _ (List.mem_cons_self ..))⟩) (fun hHeld12 => ?_)
      clear hK K
      try simp only [Act.put, List.getElem_toArray, List.getElem_cons_zero, List.getElem_cons_succ]
      refine wpAnyH_done (by kernel_rfl) ?_ _
      go_wp2_with fail
      go_meet
      case rel => exact ⟨g9, rfl, Jn7⟩
    exact AllReadyH.nil
  case rest =>
  obtain ⟨g9, rfl, JCg9⟩ := hcut
  have hfh := fld_h
  go_upto_region 2 with fail
  have JD8 := Lib.hid JCg9.out.drew
  refine wp_region_held_drew (S := (fun X => (X.cell? ⟨B, 0, none⟩ = some (.pointer a) ∧ X.cell? ⟨B, 1, none⟩ = some (.int .i64 root)) ∧ (X.cell? ⟨g9, 0, none⟩ = some (.int .i64 (celAt zs c.r).l) ∧ X.cell? ⟨g9, 1, none⟩ = some (.int .i64 (celAt zs c.r).r) ∧ X.cell? ⟨g9, 2, none⟩ = some (.int .i64 (celAt zs c.r).k) ∧ X.cell? ⟨g9, 3, none⟩ = some (.int .i64 (celAt zs c.r).v) ∧ X.cell? ⟨g9, 4, none⟩ = some (.int .i64 (celAt zs c.r).s) ∧ X.cell? ⟨g9, 5, none⟩ = some (.int .i64 (celAt zs c.r).h)) ∧ (X.cell? ⟨w.heap.size, 0, none⟩ = some (.int .i64 c.l) ∧ X.cell? ⟨w.heap.size, 1, none⟩ = some (.int .i64 c.r) ∧ X.cell? ⟨w.heap.size, 2, none⟩ = some (.int .i64 c.k) ∧ X.cell? ⟨w.heap.size, 3, none⟩ = some (.int .i64 c.v) ∧ X.cell? ⟨w.heap.size, 4, none⟩ = some (.int .i64 c.s) ∧ X.cell? ⟨w.heap.size, 5, none⟩ = some (.int .i64 c.h)))) (by kernel_rfl) (⟨JD8.out.scells, JD8.out.box (List.mem_cons_self ..), JD8.out.box (List.mem_cons_of_mem _ (List.mem_cons_self ..))⟩) (fun hHeld0 => ?_)
  refine wpAnyH_take (i := 0) (v := ?_) rfl (by kernel_rfl) (by kernel_rfl) (by kernel_rfl) (fun _ _ _ h => h) (Or.inl ⟨by rfl, ?yeturnR_az1⟩) (by assumption) ?qeturnR_az1
  case yeturnR_az1 => (intro wz hSw; (try dsimp only at hSw); go_simp <;> with_reducible rfl)
  try simp only [Act.put, List.getElem_toArray, List.getElem_cons_zero, List.setIfInBounds_toArray, List.set_cons_zero, List.set_cons_succ]
  refine wpAnyH_take (i := 1) (v := ?_) rfl (by kernel_rfl) (by kernel_rfl) (by kernel_rfl) (fun _ _ _ h => h) (Or.inl ⟨by rfl, ?yeturnR_az2⟩) (by assumption) ?qeturnR_az2
  case yeturnR_az2 => (intro wz hSw; (try dsimp only at hSw); go_simp <;> with_reducible rfl)
  try simp only [Act.put, List.getElem_toArray, List.getElem_cons_zero, List.getElem_cons_succ, List.setIfInBounds_toArray, List.set_cons_zero, List.set_cons_succ]
  refine wpAnyH_take (i := 2) (v := ?_) rfl (by kernel_rfl) (by kernel_rfl) (by kernel_rfl) (fun _ _ _ h => h) (Or.inl ⟨by rfl, ?yeturnR_az3⟩) (by assumption) ?qeturnR_az3
  case yeturnR_az3 => (intro wz hSw; (try dsimp only at hSw); go_simp <;> with_reducible rfl)
  try simp only [Act.put, List.getElem_toArray, List.getElem_cons_zero, List.getElem_cons_succ, List.setIfInBounds_toArray, List.set_cons_zero, List.set_cons_succ]
  refine wpAnyH_take (i := 3) (v := ?_) rfl (by kernel_rfl) (by kernel_rfl) (by kernel_rfl) (fun _ _ _ h => h) (Or.inl ⟨by rfl, ?yeturnR_az4⟩) (by assumption) ?qeturnR_az4
  case yeturnR_az4 => (intro wz hSw; (try dsimp only at hSw); go_simp <;> with_reducible rfl)
  try simp only [Act.put, List.getElem_toArray, List.getElem_cons_zero, List.getElem_cons_succ, List.setIfInBounds_toArray, List.set_cons_zero, List.set_cons_succ]
  refine wpAnyH_take (i := 4) (v := ?_) rfl (by kernel_rfl) (by kernel_rfl) (by kernel_rfl) (fun _ _ _ h => h) (Or.inl ⟨by rfl, ?yeturnR_az5⟩) (by assumption) ?qeturnR_az5
  case yeturnR_az5 => (intro wz hSw; (try dsimp only at hSw); go_simp <;> with_reducible rfl)
  try simp only [Act.put, List.getElem_toArray, List.getElem_cons_zero, List.getElem_cons_succ, List.setIfInBounds_toArray, List.set_cons_zero, List.set_cons_succ]
  refine wpAnyH_take (i := 5) (v := ?_) rfl (by kernel_rfl) (by kernel_rfl) (by kernel_rfl) (fun _ _ _ h => h) (Or.inl ⟨by rfl, ?yeturnR_az6⟩) (by assumption) ?qeturnR_az6
  case yeturnR_az6 => (intro wz hSw; (try dsimp only at hSw); go_simp <;> with_reducible rfl)
  try simp only [Act.put, List.getElem_toArray, List.getElem_cons_zero, List.getElem_cons_succ, List.setIfInBounds_toArray, List.set_cons_zero, List.set_cons_succ]
  refine wpAnyH_take (i := 8) (v := ?_) rfl (by kernel_rfl) (by kernel_rfl) (by kernel_rfl) (fun _ _ _ h => h) (Or.inl ⟨by rfl, ?yeturnR_az7⟩) (by assumption) ?qeturnR_az7
  case yeturnR_az7 => (intro wz hSw; (try dsimp only at hSw); go_simp <;> with_reducible rfl)
  try simp only [Act.put, List.getElem_toArray, List.getElem_cons_zero, List.getElem_cons_succ, List.setIfInBounds_toArray, List.set_cons_zero, List.set_cons_succ]
  refine wpAnyH_take (i := 9) (v := ?_) rfl (by kernel_rfl) (by kernel_rfl) (by kernel_rfl) (fun _ _ _ h => h) (Or.inl ⟨by rfl, ?yeturnR_az8⟩) (by assumption) ?qeturnR_az8
  case yeturnR_az8 => (intro wz hSw; (try dsimp only at hSw); go_simp <;> with_reducible rfl)
  try simp only [Act.put, List.getElem_toArray, List.getElem_cons_zero, List.getElem_cons_succ, List.setIfInBounds_toArray, List.set_cons_zero, List.set_cons_succ]
  refine wpAnyH_ready (rs := [6]) (by kernel_rfl) (by simp) ?_
  refine AllReadyH.cons rfl (fun K hK => ?_) AllReadyH.nil
  go_simp
  refine (pscell root (c.l) JD8.out.bi.2).mono ?_
  rintro e wn9 ⟨rfl, hbn9⟩
  have Jn9 := Lib.hid (JD8.out.below hbn9)
  clear hbn9
  try go_wp2_with fail
  refine hK.out _ _ (⟨Jn9.out.scells, Jn9.out.box (List.mem_cons_self ..), Jn9.out.box (List.mem_cons_of_mem _ (List.mem_cons_self ..))⟩) (fun hHeld9 => ?_)
  clear hK K
  try simp only [Act.put, List.getElem_toArray, List.getElem_cons_zero, List.getElem_cons_succ, List.setIfInBounds_toArray, List.set_cons_zero, List.set_cons_succ]
  refine wpAnyH_take (i := 7) (v := ?_) rfl (by kernel_rfl) (by kernel_rfl) (by kernel_rfl) (fun _ _ _ h => h) (Or.inl ⟨by rfl, ?yeturnR_az10⟩) (by assumption) ?qeturnR_az10
  case yeturnR_az10 => (intro wz hSw; (try dsimp only at hSw); go_simp <;> with_reducible rfl)
  try simp only [Act.put, List.getElem_toArray, List.getElem_cons_zero, List.getElem_cons_succ, List.setIfInBounds_toArray, List.set_cons_zero, List.set_cons_succ]
  refine wpAnyH_take (i := 10) (v := ?_) rfl (by kernel_rfl) (by kernel_rfl) (by kernel_rfl) (fun _ _ _ h => h) (Or.inl ⟨by rfl, ?yeturnR_az11⟩) (by assumption) ?qeturnR_az11
  case yeturnR_az11 => (intro wz hSw; (try dsimp only at hSw); go_simp <;> with_reducible rfl)
  try simp only [Act.put, List.getElem_toArray, List.getElem_cons_zero, List.getElem_cons_succ, List.setIfInBounds_toArray, List.set_cons_zero, List.set_cons_succ]
  refine wpAnyH_done (by kernel_rfl) ?_ _
  go_upto_region 3 with fail
  have JD10 := Lib.hid Jn9.out.drew
  refine wp_region_held_drew (S := (fun X => (X.cell? ⟨w.heap.size, 0, none⟩ = some (.int .i64 c.l) ∧ X.cell? ⟨w.heap.size, 1, none⟩ = some (.int .i64 c.r) ∧ X.cell? ⟨w.heap.size, 2, none⟩ = some (.int .i64 c.k) ∧ X.cell? ⟨w.heap.size, 3, none⟩ = some (.int .i64 c.v) ∧ X.cell? ⟨w.heap.size, 4, none⟩ = some (.int .i64 c.s) ∧ X.cell? ⟨w.heap.size, 5, none⟩ = some (.int .i64 c.h)))) (by kernel_rfl) (JD10.out.box (List.mem_cons_of_mem _ (List.mem_cons_self ..))) (fun hHeld0 => ?_)
  refine wpAnyH_take (i := 0) (v := ?_) rfl (by kernel_rfl) (by kernel_rfl) (by kernel_rfl) (fun _ _ _ h => h) (Or.inl ⟨by rfl, ?yeturnR_au1⟩) (by assumption) ?qeturnR_au1
  case yeturnR_au1 => (intro wz hSw; (try dsimp only at hSw); go_simp <;> with_reducible rfl)
  try simp only [Act.put, List.getElem_toArray, List.getElem_cons_zero, List.setIfInBounds_toArray, List.set_cons_zero, List.set_cons_succ]
  refine wpAnyH_take (i := 1) (v := ?_) rfl (by kernel_rfl) (by kernel_rfl) (by kernel_rfl) (fun _ _ _ h => h) (Or.inl ⟨by rfl, ?yeturnR_au2⟩) (by assumption) ?qeturnR_au2
  case yeturnR_au2 => (intro wz hSw; (try dsimp only at hSw); go_simp <;> with_reducible rfl)
  try simp only [Act.put, List.getElem_toArray, List.getElem_cons_zero, List.getElem_cons_succ, List.setIfInBounds_toArray, List.set_cons_zero, List.set_cons_succ]
  refine wpAnyH_take (i := 2) (v := ?_) rfl (by kernel_rfl) (by kernel_rfl) (by kernel_rfl) (fun _ _ _ h => h) (Or.inl ⟨by rfl, ?yeturnR_au3⟩) (by assumption) ?qeturnR_au3
  case yeturnR_au3 => (intro wz hSw; (try dsimp only at hSw); go_simp <;> with_reducible rfl)
  try simp only [Act.put, List.getElem_toArray, List.getElem_cons_zero, List.getElem_cons_succ, List.setIfInBounds_toArray, List.set_cons_zero, List.set_cons_succ]
  refine wpAnyH_take (i := 3) (v := ?_) rfl (by kernel_rfl) (by kernel_rfl) (by kernel_rfl) (fun _ _ _ h => h) (Or.inl ⟨by rfl, ?yeturnR_au4⟩) (by assumption) ?qeturnR_au4
  case yeturnR_au4 => (intro wz hSw; (try dsimp only at hSw); go_simp <;> with_reducible rfl)
  try simp only [Act.put, List.getElem_toArray, List.getElem_cons_zero, List.getElem_cons_succ, List.setIfInBounds_toArray, List.set_cons_zero, List.set_cons_succ]
  refine wpAnyH_take (i := 4) (v := ?_) rfl (by kernel_rfl) (by kernel_rfl) (by kernel_rfl) (fun _ _ _ h => h) (Or.inl ⟨by rfl, ?yeturnR_au5⟩) (by assumption) ?qeturnR_au5
  case yeturnR_au5 => (intro wz hSw; (try dsimp only at hSw); go_simp <;> with_reducible rfl)
  try simp only [Act.put, List.getElem_toArray, List.getElem_cons_zero, List.getElem_cons_succ, List.setIfInBounds_toArray, List.set_cons_zero, List.set_cons_succ]
  refine wpAnyH_take (i := 5) (v := ?_) rfl (by kernel_rfl) (by kernel_rfl) (by kernel_rfl) (fun _ _ _ h => h) (Or.inl ⟨by rfl, ?yeturnR_au6⟩) (by assumption) ?qeturnR_au6
  case yeturnR_au6 => (intro wz hSw; (try dsimp only at hSw); go_simp <;> with_reducible rfl)
  try simp only [Act.put, List.getElem_toArray, List.getElem_cons_zero, List.getElem_cons_succ, List.setIfInBounds_toArray, List.set_cons_zero, List.set_cons_succ]
  refine wpAnyH_take (i := 6) (v := ?_) rfl (by kernel_rfl) (by kernel_rfl) (by kernel_rfl) (fun _ _ _ h => h) (Or.inl ⟨by rfl, ?yeturnR_au7⟩) (by assumption) ?qeturnR_au7
  case yeturnR_au7 => (intro wz hSw; (try dsimp only at hSw); go_simp <;> with_reducible rfl)
  try simp only [Act.put, List.getElem_toArray, List.getElem_cons_zero, List.getElem_cons_succ, List.setIfInBounds_toArray, List.set_cons_zero, List.set_cons_succ]
  refine wpAnyH_take (i := 7) (v := ?_) rfl (by kernel_rfl) (by kernel_rfl) (by kernel_rfl) (fun _ _ _ h => h) (Or.inl ⟨by rfl, ?yeturnR_au8⟩) (by assumption) ?qeturnR_au8
  case yeturnR_au8 => (intro wz hSw; (try dsimp only at hSw); go_simp <;> with_reducible rfl)
  try simp only [Act.put, List.getElem_toArray, List.getElem_cons_zero, List.getElem_cons_succ, List.setIfInBounds_toArray, List.set_cons_zero, List.set_cons_succ]
  refine wpAnyH_take (i := 8) (v := ?_) rfl (by kernel_rfl) (by kernel_rfl) (by kernel_rfl) (fun _ _ _ h => h) (Or.inl ⟨by rfl, ?yeturnR_au9⟩) (by assumption) ?qeturnR_au9
  case yeturnR_au9 => (intro wz hSw; (try dsimp only at hSw); go_simp <;> with_reducible rfl)
  try simp only [Act.put, List.getElem_toArray, List.getElem_cons_zero, List.getElem_cons_succ, List.setIfInBounds_toArray, List.set_cons_zero, List.set_cons_succ]
  refine wpAnyH_take (i := 9) (v := ?_) rfl (by kernel_rfl) (by kernel_rfl) (by kernel_rfl) (fun _ _ _ h => h) (Or.inl ⟨by rfl, ?yeturnR_au10⟩) (by assumption) ?qeturnR_au10
  case yeturnR_au10 => (intro wz hSw; (try dsimp only at hSw); go_simp <;> with_reducible rfl)
  try simp only [Act.put, List.getElem_toArray, List.getElem_cons_zero, List.getElem_cons_succ, List.setIfInBounds_toArray, List.set_cons_zero, List.set_cons_succ]
  refine wpAnyH_ready (rs := [10]) (by kernel_rfl) (by simp) ?_
  refine AllReadyH.cons rfl (fun K hK => ?_) AllReadyH.nil
  go_simp
  refine (B1.out _ _ JD10.out.bi).mono ?_
  intro e wn11 hsn11
  obtain ⟨rfl, on11, Jn11⟩ := JD10.out.call hsn11
  clear hsn11
  try go_wp2_with fail
  refine hK.out _ _ (Jn11.out.box (List.mem_cons_of_mem _ (List.mem_cons_self ..))) (fun hHeld11 => ?_)
  clear hK K
  try simp only [Act.put, List.getElem_toArray, List.getElem_cons_zero, List.getElem_cons_succ, List.setIfInBounds_toArray, List.set_cons_zero, List.set_cons_succ]
  refine wpAnyH_ready (rs := [11]) (by kernel_rfl) (by simp) ?_
  refine AllReadyH.cons rfl (fun K hK => ?_) AllReadyH.nil
  go_simp
  refine (B2.out _ _ Jn11.out.bi).mono ?_
  intro e wn12 hsn12
  obtain ⟨rfl, on12, Jn12⟩ := Jn11.out.call hsn12
  clear hsn12
  try go_wp2_with fail
  refine hK.out _ _ (Jn12.out.box (List.mem_cons_of_mem _ (List.mem_cons_self ..))) (fun hHeld12 => ?_)
  clear hK K
  try simp only [Act.put, List.getElem_toArray, List.getElem_cons_zero, List.getElem_cons_succ, List.setIfInBounds_toArray, List.set_cons_zero, List.set_cons_succ]
  refine wpAnyH_take (i := 12) (v := ?_) rfl (by kernel_rfl) (by kernel_rfl) (by kernel_rfl) (fun _ _ _ h => h) (Or.inl ⟨by rfl, ?yeturnR_au13⟩) (by assumption) ?qeturnR_au13
  case yeturnR_au13 => (intro wz hSw; (try dsimp only at hSw); go_simp <;> with_reducible rfl)
  try simp only [Act.put, List.getElem_toArray, List.getElem_cons_zero, List.getElem_cons_succ, List.setIfInBounds_toArray, List.set_cons_zero, List.set_cons_succ]
  refine wpAnyH_done (by kernel_rfl) ?_ _
  go_wp2_with fail
  go_ret
  exact Jn12.out.done _
set_option maxHeartbeats 8000000 in
set_option maxRecDepth 100000 in
theorem eturnR_b {w : World} {B : Nat} {pv : Value} {o : Option Nat} {root had : Int} {room : Nat} {zs : List Cel} {why : Int} (c : Cel) (val right : Int) (h : EDI w B pv o root had room zs why) (hc : fitC c zs.length) (hok : c.ok) (hx : 0 ≤ right ∧ right ≤ (zs.length : Int)) (hv : -9223372036854775808 ≤ val ∧ val ≤ 9223372036854775807) (hcd : ¬ (celAt zs c.r).h ≤ (celAt zs c.l).h) :
    Calls Try.prog 49 #[.pointer (some ⟨B, 0, none⟩), .agg #[.int .i64 c.l, .int .i64 c.r, .int .i64 c.k, .int .i64 c.v, .int .i64 c.s, .int .i64 c.h], .int .i64 val, .int .i64 right] w (EDP B pv o root had room (turnRS room zs why c val right).1 (turnRS room zs why c val right).2.1 (.int .i64 (turnRS room zs why c val right).2.2) w) := by
  obtain ⟨a, rfl⟩ : ∃ a, pv = .pointer a := by
    rcases h.2 with ⟨rfl, _⟩ | ⟨b, rfl, _⟩
    · exact ⟨_, rfl⟩
    · exact ⟨_, rfl⟩
  have hbk := h.2.bk
  have hle := h.2.le
  have hoks := h.2.oks
  have hmf := celAt_fit hbk (c.r)
  have hmo := celAt_ok hoks (c.r)
  have hol := celAt_ok hoks (c.l)
  unfold turnRS
  rw [if_neg hcd]
  dsimp only
  have hp1 := putM_le room zs why ⟨c.l, (celAt zs c.r).l, 0, c.v, 0, 0⟩
  have hq1 := putM_le2 room zs why ⟨c.l, (celAt zs c.r).l, 0, c.v, 0, 0⟩
  have B1 : Hid (∀ (X : World) (o : Option Nat), EDI X B (.pointer a) o root had room zs why → Calls Try.prog 35 #[.pointer (some ⟨B, 0, none⟩), .int .i64 c.l, .int .i64 c.v, .int .i64 ((celAt zs c.r).l)] X (EDP B (.pointer a) o root had room (putM room zs why ⟨c.l, (celAt zs c.r).l, 0, c.v, 0, 0⟩).1 (putM room zs why ⟨c.l, (celAt zs c.r).l, 0, c.v, 0, 0⟩).2.1 (.int .i64 (putM room zs why ⟨c.l, (celAt zs c.r).l, 0, c.v, 0, 0⟩).2.2) X)) := Lib.hid fun X o h => eput (c.l) (c.v) ((celAt zs c.r).l) h (by unfold fitC at *; simp only at *; omega) (by unfold Cel.ok at *; simp only at *; omega)
  generalize putM room zs why ⟨c.l, (celAt zs c.r).l, 0, c.v, 0, 0⟩ = q1 at hp1 hq1 B1 ⊢
  obtain ⟨zs1, why1, i1⟩ := q1
  simp only at hp1 hq1 B1 ⊢
  have hp2 := putM_le room zs1 why1 ⟨(celAt zs c.r).r, right, 0, val, 0, 0⟩
  have hq2 := putM_le2 room zs1 why1 ⟨(celAt zs c.r).r, right, 0, val, 0, 0⟩
  have B2 : Hid (∀ (X : World) (o : Option Nat), EDI X B (.pointer a) o root had room zs1 why1 → Calls Try.prog 35 #[.pointer (some ⟨B, 0, none⟩), .int .i64 ((celAt zs c.r).r), .int .i64 val, .int .i64 right] X (EDP B (.pointer a) o root had room (putM room zs1 why1 ⟨(celAt zs c.r).r, right, 0, val, 0, 0⟩).1 (putM room zs1 why1 ⟨(celAt zs c.r).r, right, 0, val, 0, 0⟩).2.1 (.int .i64 (putM room zs1 why1 ⟨(celAt zs c.r).r, right, 0, val, 0, 0⟩).2.2) X)) := Lib.hid fun X o h => eput ((celAt zs c.r).r) (val) (right) h (by unfold fitC at *; simp only at *; omega) (by unfold Cel.ok at *; simp only at *; omega)
  generalize putM room zs1 why1 ⟨(celAt zs c.r).r, right, 0, val, 0, 0⟩ = q2 at hp2 hq2 B2 ⊢
  obtain ⟨zs2, why2, i2⟩ := q2
  simp only at hp2 hq2 B2 ⊢
  have hp3 := putM_le room zs2 why2 ⟨i1, i2, 0, (celAt zs c.r).v, 0, 0⟩
  have hq3 := putM_le2 room zs2 why2 ⟨i1, i2, 0, (celAt zs c.r).v, 0, 0⟩
  have B3 : Hid (∀ (X : World) (o : Option Nat), EDI X B (.pointer a) o root had room zs2 why2 → Calls Try.prog 35 #[.pointer (some ⟨B, 0, none⟩), .int .i64 i1, .int .i64 ((celAt zs c.r).v), .int .i64 i2] X (EDP B (.pointer a) o root had room (putM room zs2 why2 ⟨i1, i2, 0, (celAt zs c.r).v, 0, 0⟩).1 (putM room zs2 why2 ⟨i1, i2, 0, (celAt zs c.r).v, 0, 0⟩).2.1 (.int .i64 (putM room zs2 why2 ⟨i1, i2, 0, (celAt zs c.r).v, 0, 0⟩).2.2) X)) := Lib.hid fun X o h => eput (i1) ((celAt zs c.r).v) (i2) h (by unfold fitC at *; simp only at *; omega) (by unfold Cel.ok at *; simp only at *; omega)
  generalize putM room zs2 why2 ⟨i1, i2, 0, (celAt zs c.r).v, 0, 0⟩ = q3 at hp3 hq3 B3 ⊢
  obtain ⟨zs3, why3, i3⟩ := q3
  simp only at hp3 hq3 B3 ⊢
  have J0 : Hid (EDS B (.pointer a) root had room w o (w.alloc (boxC ⟨c.l, c.r, c.k, c.v, c.s, c.h⟩)) o zs why [(w.heap.size, boxC ⟨c.l, c.r, c.k, c.v, c.s, c.h⟩)]) := Lib.hid ((EDS.start h).alloc (boxC c))
  have hcd2 : (celAt zs c.l).h < (celAt zs c.r).h := by omega
  clear h hc hok hbk hle hoks hmf hmo hol hcd hx hv hp1 hq1 hp2 hq2 hp3 hq3
  go_enter Try.func49, Try.ntmps49
  go_upto_region 1 with fail
  go_cut [9] (fun s9 wx => ∃ g9, s9 = .pointer (some ⟨g9, 0, none⟩) ∧ Hid (EDS B (.pointer a) root had room w o wx o zs why [(g9, boxC ⟨(celAt zs c.r).l, (celAt zs c.r).r, (celAt zs c.r).k, (celAt zs c.r).v, (celAt zs c.r).s, (celAt zs c.r).h⟩), (w.heap.size, boxC ⟨c.l, c.r, c.k, c.v, c.s, c.h⟩)]))
  case first =>
    have JD1 := Lib.hid J0.out.drew
    refine wp_region_held_drew (S := (fun X => (X.cell? ⟨B, 0, none⟩ = some (.pointer a) ∧ X.cell? ⟨B, 1, none⟩ = some (.int .i64 root)) ∧ (X.cell? ⟨w.heap.size, 0, none⟩ = some (.int .i64 c.l) ∧ X.cell? ⟨w.heap.size, 1, none⟩ = some (.int .i64 c.r) ∧ X.cell? ⟨w.heap.size, 2, none⟩ = some (.int .i64 c.k) ∧ X.cell? ⟨w.heap.size, 3, none⟩ = some (.int .i64 c.v) ∧ X.cell? ⟨w.heap.size, 4, none⟩ = some (.int .i64 c.s) ∧ X.cell? ⟨w.heap.size, 5, none⟩ = some (.int .i64 c.h)))) (by kernel_rfl) (⟨JD1.out.scells, JD1.out.box (List.mem_cons_self ..)⟩) (fun hHeld0 => ?_)
    refine wpAnyH_take (i := 0) (v := ?_) rfl (by kernel_rfl) (by kernel_rfl) (by kernel_rfl) (fun _ _ _ h => h) (Or.inl ⟨by rfl, ?yeturnR_bx1⟩) (by assumption) ?qeturnR_bx1
    case yeturnR_bx1 => (intro wz hSw; (try dsimp only at hSw); go_simp <;> with_reducible rfl)
    try simp only [Act.put, List.getElem_toArray, List.getElem_cons_zero, List.setIfInBounds_toArray, List.set_cons_zero, List.set_cons_succ]
    refine wpAnyH_take (i := 1) (v := ?_) rfl (by kernel_rfl) (by kernel_rfl) (by kernel_rfl) (fun _ _ _ h => h) (Or.inl ⟨by rfl, ?yeturnR_bx2⟩) (by assumption) ?qeturnR_bx2
    case yeturnR_bx2 => (intro wz hSw; (try dsimp only at hSw); go_simp <;> with_reducible rfl)
    try simp only [Act.put, List.getElem_toArray, List.getElem_cons_zero, List.getElem_cons_succ, List.setIfInBounds_toArray, List.set_cons_zero, List.set_cons_succ]
    refine wpAnyH_take (i := 2) (v := ?_) rfl (by kernel_rfl) (by kernel_rfl) (by kernel_rfl) (fun _ _ _ h => h) (Or.inl ⟨by rfl, ?yeturnR_bx3⟩) (by assumption) ?qeturnR_bx3
    case yeturnR_bx3 => (intro wz hSw; (try dsimp only at hSw); go_simp <;> with_reducible rfl)
    try simp only [Act.put, List.getElem_toArray, List.getElem_cons_zero, List.getElem_cons_succ, List.setIfInBounds_toArray, List.set_cons_zero, List.set_cons_succ]
    refine wpAnyH_take (i := 3) (v := ?_) rfl (by kernel_rfl) (by kernel_rfl) (by kernel_rfl) (fun _ _ _ h => h) (Or.inl ⟨by rfl, ?yeturnR_bx4⟩) (by assumption) ?qeturnR_bx4
    case yeturnR_bx4 => (intro wz hSw; (try dsimp only at hSw); go_simp <;> with_reducible rfl)
    try simp only [Act.put, List.getElem_toArray, List.getElem_cons_zero, List.getElem_cons_succ, List.setIfInBounds_toArray, List.set_cons_zero, List.set_cons_succ]
    refine wpAnyH_take (i := 4) (v := ?_) rfl (by kernel_rfl) (by kernel_rfl) (by kernel_rfl) (fun _ _ _ h => h) (Or.inl ⟨by rfl, ?yeturnR_bx5⟩) (by assumption) ?qeturnR_bx5
    case yeturnR_bx5 => (intro wz hSw; (try dsimp only at hSw); go_simp <;> with_reducible rfl)
    try simp only [Act.put, List.getElem_toArray, List.getElem_cons_zero, List.getElem_cons_succ, List.setIfInBounds_toArray, List.set_cons_zero, List.set_cons_succ]
    refine wpAnyH_take (i := 5) (v := ?_) rfl (by kernel_rfl) (by kernel_rfl) (by kernel_rfl) (fun _ _ _ h => h) (Or.inl ⟨by rfl, ?yeturnR_bx6⟩) (by assumption) ?qeturnR_bx6
    case yeturnR_bx6 => (intro wz hSw; (try dsimp only at hSw); go_simp <;> with_reducible rfl)
    try simp only [Act.put, List.getElem_toArray, List.getElem_cons_zero, List.getElem_cons_succ, List.setIfInBounds_toArray, List.set_cons_zero, List.set_cons_succ]
    refine wpAnyH_ready (rs := [6, 7]) (by kernel_rfl) (by simp) ?_
    refine AllReadyH.cons rfl (fun K hK => ?beturnR_bx7) ?ceturnR_bx7
    case beturnR_bx7 =>
      go_simp
      refine (pscell root (c.r) JD1.out.bi.2).mono ?_
      rintro e wn2 ⟨rfl, hbn2⟩
      have Jn2 := Lib.hid (JD1.out.below hbn2)
      clear hbn2
      try go_wp2_with fail
      refine hK.out _ _ (⟨Jn2.out.scells, Jn2.out.box (List.mem_cons_self ..)⟩) (fun hHeld7 => ?_)
      clear hK K
      try simp only [Act.put, List.getElem_toArray, List.getElem_cons_zero, List.getElem_cons_succ, List.setIfInBounds_toArray, List.set_cons_zero, List.set_cons_succ]
      refine wpAnyH_ready (rs := [7]) (by kernel_rfl) (by simp) ?_
      refine AllReadyH.cons rfl (fun K hK => ?_) AllReadyH.nil
      rw [if_pos (by rfl)]
      refine wp_alloc_cel rfl ?_
      intro g9 wn3 hgn3 hwn3
      have Jn3 : Hid (EDS B (.pointer a) root had room w o wn3 o zs why [(g9, boxC ⟨0, 0, 0, 0, 0, 0⟩), (w.heap.size, boxC ⟨c.l, c.r, c.k, c.v, c.s, c.h⟩)]) := Lib.hid (by rw [hgn3, hwn3]; exact Jn2.out.alloc (boxC Cel.zero))
      clear hgn3 hwn3
      refine hK.out _ _ (⟨Jn3.out.scells, Jn3.out.box (List.mem_cons_of_mem _ (List.mem_cons_self ..))⟩) (fun hHeld8 => ?_)
      clear hK K
      try simp only [Act.put, List.getElem_toArray, List.getElem_cons_zero, List.getElem_cons_succ, List.setIfInBounds_toArray, List.set_cons_zero, List.set_cons_succ]
      refine wpAnyH_ready (rs := [8]) (by kernel_rfl) (by simp) ?_
      refine AllReadyH.cons rfl (fun K hK => ?_) AllReadyH.nil
      rw [if_pos (by rfl)]
      refine wp_store_cel (.tmp 9) (.tmp 16) rfl g9 (⟨(celAt zs c.r).l, (celAt zs c.r).r, (celAt zs c.r).k, (celAt zs c.r).v, (celAt zs c.r).s, (celAt zs c.r).h⟩) ⟨0, 0, 0, 0, 0, 0⟩ rfl rfl (Jn3.out.at_ (List.mem_cons_self ..)) ?_
      intro wn4 hstn4
      have Jn4 : Hid (EDS B (.pointer a) root had room w o wn4 o zs why [(g9, boxC ⟨(celAt zs c.r).l, (celAt zs c.r).r, (celAt zs c.r).k, (celAt zs c.r).v, (celAt zs c.r).s, (celAt zs c.r).h⟩), (w.heap.size, boxC ⟨c.l, c.r, c.k, c.v, c.s, c.h⟩)]) := Lib.hid (Jn3.out.store hstn4)
      clear hstn4
      refine hK.out _ _ (⟨Jn4.out.scells, Jn4.out.box (List.mem_cons_of_mem _ (List.mem_cons_self ..))⟩) (fun hHeld9 => ?_)
      clear hK K
      try simp only [Act.put, List.getElem_toArray, List.getElem_cons_zero, List.getElem_cons_succ]
      refine wpAnyH_done (by kernel_rfl) ?_ _
      go_wp2_with fail
      go_meet
      case rel => exact ⟨g9, rfl, Jn4⟩
    refine AllReadyH.cons rfl (fun K hK => ?beturnR_bx10) ?ceturnR_bx10
    case beturnR_bx10 =>
      rw [if_pos (by rfl)]
      refine wp_alloc_cel rfl ?_
      intro g9 wn5 hgn5 hwn5
      have Jn5 : Hid (EDS B (.pointer a) root had room w o wn5 o zs why [(g9, boxC ⟨0, 0, 0, 0, 0, 0⟩), (w.heap.size, boxC ⟨c.l, c.r, c.k, c.v, c.s, c.h⟩)]) := Lib.hid (by rw [hgn5, hwn5]; exact JD1.out.alloc (boxC Cel.zero))
      clear hgn5 hwn5
      refine hK.out _ _ (⟨Jn5.out.scells, Jn5.out.box (List.mem_cons_of_mem _ (List.mem_cons_self ..))⟩) (fun hHeld10 => ?_)
      clear hK K
      try simp only [Act.put, List.getElem_toArray, List.getElem_cons_zero, List.getElem_cons_succ, List.setIfInBounds_toArray, List.set_cons_zero, List.set_cons_succ]
      refine wpAnyH_ready (rs := [6]) (by kernel_rfl) (by simp) ?_
      refine AllReadyH.cons rfl (fun K hK => ?_) AllReadyH.nil
      go_simp
      refine (pscell root (c.r) Jn5.out.bi.2).mono ?_
      rintro e wn6 ⟨rfl, hbn6⟩
      have Jn6 := Lib.hid (Jn5.out.below hbn6)
      clear hbn6
      try go_wp2_with fail
      refine hK.out _ _ (⟨Jn6.out.scells, Jn6.out.box (List.mem_cons_of_mem _ (List.mem_cons_self ..))⟩) (fun hHeld11 => ?_)
      clear hK K
      try simp only [Act.put, List.getElem_toArray, List.getElem_cons_zero, List.getElem_cons_succ, List.setIfInBounds_toArray, List.set_cons_zero, List.set_cons_succ]
      refine wpAnyH_ready (rs := [8]) (by kernel_rfl) (by simp) ?_
      refine AllReadyH.cons rfl (fun K hK => ?_) AllReadyH.nil
      rw [if_pos (by rfl)]
      refine wp_store_cel (.tmp 9) (.tmp 16) rfl g9 (⟨(celAt zs c.r).l, (celAt zs c.r).r, (celAt zs c.r).k, (celAt zs c.r).v, (celAt zs c.r).s, (celAt zs c.r).h⟩) ⟨0, 0, 0, 0, 0, 0⟩ rfl rfl (Jn6.out.at_ (List.mem_cons_self ..)) ?_
      intro wn7 hstn7
      have Jn7 : Hid (EDS B (.pointer a) root had room w o wn7 o zs why [(g9, boxC ⟨(celAt zs c.r).l, (celAt zs c.r).r, (celAt zs c.r).k, (celAt zs c.r).v, (celAt zs c.r).s, (celAt zs c.r).h⟩), (w.heap.size, boxC ⟨c.l, c.r, c.k, c.v, c.s, c.h⟩)]) := Lib.hid (Jn6.out.store hstn7)
      clear hstn7
      refine hK.out _ _ (⟨Jn7.out.scells, Jn7.out.box (List.mem_cons_of_mem _ (List.mem_cons_self ..))⟩) (fun hHeld12 => ?_)
      clear hK K
      try simp only [Act.put, List.getElem_toArray, List.getElem_cons_zero, List.getElem_cons_succ]
      refine wpAnyH_done (by kernel_rfl) ?_ _
      go_wp2_with fail
      go_meet
      case rel => exact ⟨g9, rfl, Jn7⟩
    exact AllReadyH.nil
  case rest =>
  obtain ⟨g9, rfl, JCg9⟩ := hcut
  have hfh := fld_h
  go_upto_region 2 with fail
  have JD8 := Lib.hid JCg9.out.drew
  refine wp_region_held_drew (S := (fun X => (X.cell? ⟨B, 0, none⟩ = some (.pointer a) ∧ X.cell? ⟨B, 1, none⟩ = some (.int .i64 root)) ∧ (X.cell? ⟨g9, 0, none⟩ = some (.int .i64 (celAt zs c.r).l) ∧ X.cell? ⟨g9, 1, none⟩ = some (.int .i64 (celAt zs c.r).r) ∧ X.cell? ⟨g9, 2, none⟩ = some (.int .i64 (celAt zs c.r).k) ∧ X.cell? ⟨g9, 3, none⟩ = some (.int .i64 (celAt zs c.r).v) ∧ X.cell? ⟨g9, 4, none⟩ = some (.int .i64 (celAt zs c.r).s) ∧ X.cell? ⟨g9, 5, none⟩ = some (.int .i64 (celAt zs c.r).h)) ∧ (X.cell? ⟨w.heap.size, 0, none⟩ = some (.int .i64 c.l) ∧ X.cell? ⟨w.heap.size, 1, none⟩ = some (.int .i64 c.r) ∧ X.cell? ⟨w.heap.size, 2, none⟩ = some (.int .i64 c.k) ∧ X.cell? ⟨w.heap.size, 3, none⟩ = some (.int .i64 c.v) ∧ X.cell? ⟨w.heap.size, 4, none⟩ = some (.int .i64 c.s) ∧ X.cell? ⟨w.heap.size, 5, none⟩ = some (.int .i64 c.h)))) (by kernel_rfl) (⟨JD8.out.scells, JD8.out.box (List.mem_cons_self ..), JD8.out.box (List.mem_cons_of_mem _ (List.mem_cons_self ..))⟩) (fun hHeld0 => ?_)
  refine wpAnyH_take (i := 0) (v := ?_) rfl (by kernel_rfl) (by kernel_rfl) (by kernel_rfl) (fun _ _ _ h => h) (Or.inl ⟨by rfl, ?yeturnR_bz1⟩) (by assumption) ?qeturnR_bz1
  case yeturnR_bz1 => (intro wz hSw; (try dsimp only at hSw); go_simp <;> with_reducible rfl)
  try simp only [Act.put, List.getElem_toArray, List.getElem_cons_zero, List.setIfInBounds_toArray, List.set_cons_zero, List.set_cons_succ]
  refine wpAnyH_take (i := 1) (v := ?_) rfl (by kernel_rfl) (by kernel_rfl) (by kernel_rfl) (fun _ _ _ h => h) (Or.inl ⟨by rfl, ?yeturnR_bz2⟩) (by assumption) ?qeturnR_bz2
  case yeturnR_bz2 => (intro wz hSw; (try dsimp only at hSw); go_simp <;> with_reducible rfl)
  try simp only [Act.put, List.getElem_toArray, List.getElem_cons_zero, List.getElem_cons_succ, List.setIfInBounds_toArray, List.set_cons_zero, List.set_cons_succ]
  refine wpAnyH_take (i := 2) (v := ?_) rfl (by kernel_rfl) (by kernel_rfl) (by kernel_rfl) (fun _ _ _ h => h) (Or.inl ⟨by rfl, ?yeturnR_bz3⟩) (by assumption) ?qeturnR_bz3
  case yeturnR_bz3 => (intro wz hSw; (try dsimp only at hSw); go_simp <;> with_reducible rfl)
  try simp only [Act.put, List.getElem_toArray, List.getElem_cons_zero, List.getElem_cons_succ, List.setIfInBounds_toArray, List.set_cons_zero, List.set_cons_succ]
  refine wpAnyH_take (i := 3) (v := ?_) rfl (by kernel_rfl) (by kernel_rfl) (by kernel_rfl) (fun _ _ _ h => h) (Or.inl ⟨by rfl, ?yeturnR_bz4⟩) (by assumption) ?qeturnR_bz4
  case yeturnR_bz4 => (intro wz hSw; (try dsimp only at hSw); go_simp <;> with_reducible rfl)
  try simp only [Act.put, List.getElem_toArray, List.getElem_cons_zero, List.getElem_cons_succ, List.setIfInBounds_toArray, List.set_cons_zero, List.set_cons_succ]
  refine wpAnyH_take (i := 4) (v := ?_) rfl (by kernel_rfl) (by kernel_rfl) (by kernel_rfl) (fun _ _ _ h => h) (Or.inl ⟨by rfl, ?yeturnR_bz5⟩) (by assumption) ?qeturnR_bz5
  case yeturnR_bz5 => (intro wz hSw; (try dsimp only at hSw); go_simp <;> with_reducible rfl)
  try simp only [Act.put, List.getElem_toArray, List.getElem_cons_zero, List.getElem_cons_succ, List.setIfInBounds_toArray, List.set_cons_zero, List.set_cons_succ]
  refine wpAnyH_take (i := 5) (v := ?_) rfl (by kernel_rfl) (by kernel_rfl) (by kernel_rfl) (fun _ _ _ h => h) (Or.inl ⟨by rfl, ?yeturnR_bz6⟩) (by assumption) ?qeturnR_bz6
  case yeturnR_bz6 => (intro wz hSw; (try dsimp only at hSw); go_simp <;> with_reducible rfl)
  try simp only [Act.put, List.getElem_toArray, List.getElem_cons_zero, List.getElem_cons_succ, List.setIfInBounds_toArray, List.set_cons_zero, List.set_cons_succ]
  refine wpAnyH_take (i := 8) (v := ?_) rfl (by kernel_rfl) (by kernel_rfl) (by kernel_rfl) (fun _ _ _ h => h) (Or.inl ⟨by rfl, ?yeturnR_bz7⟩) (by assumption) ?qeturnR_bz7
  case yeturnR_bz7 => (intro wz hSw; (try dsimp only at hSw); go_simp <;> with_reducible rfl)
  try simp only [Act.put, List.getElem_toArray, List.getElem_cons_zero, List.getElem_cons_succ, List.setIfInBounds_toArray, List.set_cons_zero, List.set_cons_succ]
  refine wpAnyH_take (i := 9) (v := ?_) rfl (by kernel_rfl) (by kernel_rfl) (by kernel_rfl) (fun _ _ _ h => h) (Or.inl ⟨by rfl, ?yeturnR_bz8⟩) (by assumption) ?qeturnR_bz8
  case yeturnR_bz8 => (intro wz hSw; (try dsimp only at hSw); go_simp <;> with_reducible rfl)
  try simp only [Act.put, List.getElem_toArray, List.getElem_cons_zero, List.getElem_cons_succ, List.setIfInBounds_toArray, List.set_cons_zero, List.set_cons_succ]
  refine wpAnyH_ready (rs := [6]) (by kernel_rfl) (by simp) ?_
  refine AllReadyH.cons rfl (fun K hK => ?_) AllReadyH.nil
  go_simp
  refine (pscell root (c.l) JD8.out.bi.2).mono ?_
  rintro e wn9 ⟨rfl, hbn9⟩
  have Jn9 := Lib.hid (JD8.out.below hbn9)
  clear hbn9
  try go_wp2_with fail
  refine hK.out _ _ (⟨Jn9.out.scells, Jn9.out.box (List.mem_cons_self ..), Jn9.out.box (List.mem_cons_of_mem _ (List.mem_cons_self ..))⟩) (fun hHeld9 => ?_)
  clear hK K
  try simp only [Act.put, List.getElem_toArray, List.getElem_cons_zero, List.getElem_cons_succ, List.setIfInBounds_toArray, List.set_cons_zero, List.set_cons_succ]
  refine wpAnyH_take (i := 7) (v := ?_) rfl (by kernel_rfl) (by kernel_rfl) (by kernel_rfl) (fun _ _ _ h => h) (Or.inl ⟨by rfl, ?yeturnR_bz10⟩) (by assumption) ?qeturnR_bz10
  case yeturnR_bz10 => (intro wz hSw; (try dsimp only at hSw); go_simp <;> with_reducible rfl)
  try simp only [Act.put, List.getElem_toArray, List.getElem_cons_zero, List.getElem_cons_succ, List.setIfInBounds_toArray, List.set_cons_zero, List.set_cons_succ]
  refine wpAnyH_take (i := 10) (v := ?_) rfl (by kernel_rfl) (by kernel_rfl) (by kernel_rfl) (fun _ _ _ h => h) (Or.inl ⟨by rfl, ?yeturnR_bz11⟩) (by assumption) ?qeturnR_bz11
  case yeturnR_bz11 => (intro wz hSw; (try dsimp only at hSw); go_simp <;> with_reducible rfl)
  try simp only [Act.put, List.getElem_toArray, List.getElem_cons_zero, List.getElem_cons_succ, List.setIfInBounds_toArray, List.set_cons_zero, List.set_cons_succ]
  refine wpAnyH_done (by kernel_rfl) ?_ _
  go_upto_region 4 with fail
  have JD10 := Lib.hid Jn9.out.drew
  refine wp_region_held_drew (S := (fun X => (X.cell? ⟨g9, 0, none⟩ = some (.int .i64 (celAt zs c.r).l) ∧ X.cell? ⟨g9, 1, none⟩ = some (.int .i64 (celAt zs c.r).r) ∧ X.cell? ⟨g9, 2, none⟩ = some (.int .i64 (celAt zs c.r).k) ∧ X.cell? ⟨g9, 3, none⟩ = some (.int .i64 (celAt zs c.r).v) ∧ X.cell? ⟨g9, 4, none⟩ = some (.int .i64 (celAt zs c.r).s) ∧ X.cell? ⟨g9, 5, none⟩ = some (.int .i64 (celAt zs c.r).h)) ∧ (X.cell? ⟨w.heap.size, 0, none⟩ = some (.int .i64 c.l) ∧ X.cell? ⟨w.heap.size, 1, none⟩ = some (.int .i64 c.r) ∧ X.cell? ⟨w.heap.size, 2, none⟩ = some (.int .i64 c.k) ∧ X.cell? ⟨w.heap.size, 3, none⟩ = some (.int .i64 c.v) ∧ X.cell? ⟨w.heap.size, 4, none⟩ = some (.int .i64 c.s) ∧ X.cell? ⟨w.heap.size, 5, none⟩ = some (.int .i64 c.h)))) (by kernel_rfl) (⟨JD10.out.box (List.mem_cons_self ..), JD10.out.box (List.mem_cons_of_mem _ (List.mem_cons_self ..))⟩) (fun hHeld0 => ?_)
  refine wpAnyH_take (i := 0) (v := ?_) rfl (by kernel_rfl) (by kernel_rfl) (by kernel_rfl) (fun _ _ _ h => h) (Or.inl ⟨by rfl, ?yeturnR_bu1⟩) (by assumption) ?qeturnR_bu1
  case yeturnR_bu1 => (intro wz hSw; (try dsimp only at hSw); go_simp <;> with_reducible rfl)
  try simp only [Act.put, List.getElem_toArray, List.getElem_cons_zero, List.setIfInBounds_toArray, List.set_cons_zero, List.set_cons_succ]
  refine wpAnyH_take (i := 1) (v := ?_) rfl (by kernel_rfl) (by kernel_rfl) (by kernel_rfl) (fun _ _ _ h => h) (Or.inl ⟨by rfl, ?yeturnR_bu2⟩) (by assumption) ?qeturnR_bu2
  case yeturnR_bu2 => (intro wz hSw; (try dsimp only at hSw); go_simp <;> with_reducible rfl)
  try simp only [Act.put, List.getElem_toArray, List.getElem_cons_zero, List.getElem_cons_succ, List.setIfInBounds_toArray, List.set_cons_zero, List.set_cons_succ]
  refine wpAnyH_take (i := 2) (v := ?_) rfl (by kernel_rfl) (by kernel_rfl) (by kernel_rfl) (fun _ _ _ h => h) (Or.inl ⟨by rfl, ?yeturnR_bu3⟩) (by assumption) ?qeturnR_bu3
  case yeturnR_bu3 => (intro wz hSw; (try dsimp only at hSw); go_simp <;> with_reducible rfl)
  try simp only [Act.put, List.getElem_toArray, List.getElem_cons_zero, List.getElem_cons_succ, List.setIfInBounds_toArray, List.set_cons_zero, List.set_cons_succ]
  refine wpAnyH_take (i := 3) (v := ?_) rfl (by kernel_rfl) (by kernel_rfl) (by kernel_rfl) (fun _ _ _ h => h) (Or.inl ⟨by rfl, ?yeturnR_bu4⟩) (by assumption) ?qeturnR_bu4
  case yeturnR_bu4 => (intro wz hSw; (try dsimp only at hSw); go_simp <;> with_reducible rfl)
  try simp only [Act.put, List.getElem_toArray, List.getElem_cons_zero, List.getElem_cons_succ, List.setIfInBounds_toArray, List.set_cons_zero, List.set_cons_succ]
  refine wpAnyH_take (i := 4) (v := ?_) rfl (by kernel_rfl) (by kernel_rfl) (by kernel_rfl) (fun _ _ _ h => h) (Or.inl ⟨by rfl, ?yeturnR_bu5⟩) (by assumption) ?qeturnR_bu5
  case yeturnR_bu5 => (intro wz hSw; (try dsimp only at hSw); go_simp <;> with_reducible rfl)
  try simp only [Act.put, List.getElem_toArray, List.getElem_cons_zero, List.getElem_cons_succ, List.setIfInBounds_toArray, List.set_cons_zero, List.set_cons_succ]
  refine wpAnyH_take (i := 5) (v := ?_) rfl (by kernel_rfl) (by kernel_rfl) (by kernel_rfl) (fun _ _ _ h => h) (Or.inl ⟨by rfl, ?yeturnR_bu6⟩) (by assumption) ?qeturnR_bu6
  case yeturnR_bu6 => (intro wz hSw; (try dsimp only at hSw); go_simp <;> with_reducible rfl)
  try simp only [Act.put, List.getElem_toArray, List.getElem_cons_zero, List.getElem_cons_succ, List.setIfInBounds_toArray, List.set_cons_zero, List.set_cons_succ]
  refine wpAnyH_take (i := 6) (v := ?_) rfl (by kernel_rfl) (by kernel_rfl) (by kernel_rfl) (fun _ _ _ h => h) (Or.inl ⟨by rfl, ?yeturnR_bu7⟩) (by assumption) ?qeturnR_bu7
  case yeturnR_bu7 => (intro wz hSw; (try dsimp only at hSw); go_simp <;> with_reducible rfl)
  try simp only [Act.put, List.getElem_toArray, List.getElem_cons_zero, List.getElem_cons_succ, List.setIfInBounds_toArray, List.set_cons_zero, List.set_cons_succ]
  refine wpAnyH_take (i := 7) (v := ?_) rfl (by kernel_rfl) (by kernel_rfl) (by kernel_rfl) (fun _ _ _ h => h) (Or.inl ⟨by rfl, ?yeturnR_bu8⟩) (by assumption) ?qeturnR_bu8
  case yeturnR_bu8 => (intro wz hSw; (try dsimp only at hSw); go_simp <;> with_reducible rfl)
  try simp only [Act.put, List.getElem_toArray, List.getElem_cons_zero, List.getElem_cons_succ, List.setIfInBounds_toArray, List.set_cons_zero, List.set_cons_succ]
  refine wpAnyH_take (i := 9) (v := ?_) rfl (by kernel_rfl) (by kernel_rfl) (by kernel_rfl) (fun _ _ _ h => h) (Or.inl ⟨by rfl, ?yeturnR_bu9⟩) (by assumption) ?qeturnR_bu9
  case yeturnR_bu9 => (intro wz hSw; (try dsimp only at hSw); go_simp <;> with_reducible rfl)
  try simp only [Act.put, List.getElem_toArray, List.getElem_cons_zero, List.getElem_cons_succ, List.setIfInBounds_toArray, List.set_cons_zero, List.set_cons_succ]
  refine wpAnyH_take (i := 10) (v := ?_) rfl (by kernel_rfl) (by kernel_rfl) (by kernel_rfl) (fun _ _ _ h => h) (Or.inl ⟨by rfl, ?yeturnR_bu10⟩) (by assumption) ?qeturnR_bu10
  case yeturnR_bu10 => (intro wz hSw; (try dsimp only at hSw); go_simp <;> with_reducible rfl)
  try simp only [Act.put, List.getElem_toArray, List.getElem_cons_zero, List.getElem_cons_succ, List.setIfInBounds_toArray, List.set_cons_zero, List.set_cons_succ]
  refine wpAnyH_take (i := 11) (v := ?_) rfl (by kernel_rfl) (by kernel_rfl) (by kernel_rfl) (fun _ _ _ h => h) (Or.inl ⟨by rfl, ?yeturnR_bu11⟩) (by assumption) ?qeturnR_bu11
  case yeturnR_bu11 => (intro wz hSw; (try dsimp only at hSw); go_simp <;> with_reducible rfl)
  try simp only [Act.put, List.getElem_toArray, List.getElem_cons_zero, List.getElem_cons_succ, List.setIfInBounds_toArray, List.set_cons_zero, List.set_cons_succ]
  refine wpAnyH_take (i := 12) (v := ?_) rfl (by kernel_rfl) (by kernel_rfl) (by kernel_rfl) (fun _ _ _ h => h) (Or.inl ⟨by rfl, ?yeturnR_bu12⟩) (by assumption) ?qeturnR_bu12
  case yeturnR_bu12 => (intro wz hSw; (try dsimp only at hSw); go_simp <;> with_reducible rfl)
  try simp only [Act.put, List.getElem_toArray, List.getElem_cons_zero, List.getElem_cons_succ, List.setIfInBounds_toArray, List.set_cons_zero, List.set_cons_succ]
  refine wpAnyH_take (i := 13) (v := ?_) rfl (by kernel_rfl) (by kernel_rfl) (by kernel_rfl) (fun _ _ _ h => h) (Or.inl ⟨by rfl, ?yeturnR_bu13⟩) (by assumption) ?qeturnR_bu13
  case yeturnR_bu13 => (intro wz hSw; (try dsimp only at hSw); go_simp <;> with_reducible rfl)
  try simp only [Act.put, List.getElem_toArray, List.getElem_cons_zero, List.getElem_cons_succ, List.setIfInBounds_toArray, List.set_cons_zero, List.set_cons_succ]
  refine wpAnyH_take (i := 14) (v := ?_) rfl (by kernel_rfl) (by kernel_rfl) (by kernel_rfl) (fun _ _ _ h => h) (Or.inl ⟨by rfl, ?yeturnR_bu14⟩) (by assumption) ?qeturnR_bu14
  case yeturnR_bu14 => (intro wz hSw; (try dsimp only at hSw); go_simp <;> with_reducible rfl)
  try simp only [Act.put, List.getElem_toArray, List.getElem_cons_zero, List.getElem_cons_succ, List.setIfInBounds_toArray, List.set_cons_zero, List.set_cons_succ]
  refine wpAnyH_take (i := 15) (v := ?_) rfl (by kernel_rfl) (by kernel_rfl) (by kernel_rfl) (fun _ _ _ h => h) (Or.inl ⟨by rfl, ?yeturnR_bu15⟩) (by assumption) ?qeturnR_bu15
  case yeturnR_bu15 => (intro wz hSw; (try dsimp only at hSw); go_simp <;> with_reducible rfl)
  try simp only [Act.put, List.getElem_toArray, List.getElem_cons_zero, List.getElem_cons_succ, List.setIfInBounds_toArray, List.set_cons_zero, List.set_cons_succ]
  refine wpAnyH_ready (rs := [8]) (by kernel_rfl) (by simp) ?_
  refine AllReadyH.cons rfl (fun K hK => ?_) AllReadyH.nil
  go_simp
  refine (B1.out _ _ JD10.out.bi).mono ?_
  intro e wn11 hsn11
  obtain ⟨rfl, on11, Jn11⟩ := JD10.out.call hsn11
  clear hsn11
  try go_wp2_with fail
  refine hK.out _ _ (⟨Jn11.out.box (List.mem_cons_self ..), Jn11.out.box (List.mem_cons_of_mem _ (List.mem_cons_self ..))⟩) (fun hHeld16 => ?_)
  clear hK K
  try simp only [Act.put, List.getElem_toArray, List.getElem_cons_zero, List.getElem_cons_succ, List.setIfInBounds_toArray, List.set_cons_zero, List.set_cons_succ]
  refine wpAnyH_ready (rs := [16]) (by kernel_rfl) (by simp) ?_
  refine AllReadyH.cons rfl (fun K hK => ?_) AllReadyH.nil
  go_simp
  refine (B2.out _ _ Jn11.out.bi).mono ?_
  intro e wn12 hsn12
  obtain ⟨rfl, on12, Jn12⟩ := Jn11.out.call hsn12
  clear hsn12
  try go_wp2_with fail
  refine hK.out _ _ (⟨Jn12.out.box (List.mem_cons_self ..), Jn12.out.box (List.mem_cons_of_mem _ (List.mem_cons_self ..))⟩) (fun hHeld17 => ?_)
  clear hK K
  try simp only [Act.put, List.getElem_toArray, List.getElem_cons_zero, List.getElem_cons_succ, List.setIfInBounds_toArray, List.set_cons_zero, List.set_cons_succ]
  refine wpAnyH_ready (rs := [17]) (by kernel_rfl) (by simp) ?_
  refine AllReadyH.cons rfl (fun K hK => ?_) AllReadyH.nil
  go_simp
  refine (B3.out _ _ Jn12.out.bi).mono ?_
  intro e wn13 hsn13
  obtain ⟨rfl, on13, Jn13⟩ := Jn12.out.call hsn13
  clear hsn13
  try go_wp2_with fail
  refine hK.out _ _ (⟨Jn13.out.box (List.mem_cons_self ..), Jn13.out.box (List.mem_cons_of_mem _ (List.mem_cons_self ..))⟩) (fun hHeld18 => ?_)
  clear hK K
  try simp only [Act.put, List.getElem_toArray, List.getElem_cons_zero, List.getElem_cons_succ, List.setIfInBounds_toArray, List.set_cons_zero, List.set_cons_succ]
  refine wpAnyH_take (i := 18) (v := ?_) rfl (by kernel_rfl) (by kernel_rfl) (by kernel_rfl) (fun _ _ _ h => h) (Or.inl ⟨by rfl, ?yeturnR_bu19⟩) (by assumption) ?qeturnR_bu19
  case yeturnR_bu19 => (intro wz hSw; (try dsimp only at hSw); go_simp <;> with_reducible rfl)
  try simp only [Act.put, List.getElem_toArray, List.getElem_cons_zero, List.getElem_cons_succ, List.setIfInBounds_toArray, List.set_cons_zero, List.set_cons_succ]
  refine wpAnyH_done (by kernel_rfl) ?_ _
  go_wp2_with fail
  go_ret
  exact Jn13.out.done _
theorem eturnR {w : World} {B : Nat} {pv : Value} {o : Option Nat} {root had : Int} {room : Nat} {zs : List Cel} {why : Int} (c : Cel) (val right : Int) (h : EDI w B pv o root had room zs why) (hc : fitC c zs.length) (hok : c.ok) (hx : 0 ≤ right ∧ right ≤ (zs.length : Int)) (hv : -9223372036854775808 ≤ val ∧ val ≤ 9223372036854775807) :
    Calls Try.prog 49 #[.pointer (some ⟨B, 0, none⟩), .agg #[.int .i64 c.l, .int .i64 c.r, .int .i64 c.k, .int .i64 c.v, .int .i64 c.s, .int .i64 c.h], .int .i64 val, .int .i64 right] w (EDP B pv o root had room (turnRS room zs why c val right).1 (turnRS room zs why c val right).2.1 (.int .i64 (turnRS room zs why c val right).2.2) w) := by
  by_cases hcd : (celAt zs c.r).h ≤ (celAt zs c.l).h
  · exact eturnR_a c val right h hc hok hx hv hcd
  · exact eturnR_b c val right h hc hok hx hv hcd
end Go.Proofs.Ytbgepeokadmemaa.F
