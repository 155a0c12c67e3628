/-
  Contract of the editor's level. Not a statement of the seat.
-/
import Derived.Test.YtbgepeokadmemaaPsPut
import Derived.Test.YtbgepeokadmemaaPsTurnL
import Derived.Deep.Cut
import Derived.Deep.CutRange
import Derived.Deep.DeepCutAuto
import Derived.Deep.RegionHeld3
namespace Go.Proofs.Ytbgepeokadmemaa.F
open Go.ChangeShapes Go.WideShapes Go.ChangeAt Go.RowKit Base
/-- What the editor's level makes. -/
def levelS (room : Nat) (zs : List Cel) (why : Int) (left val right : Int) : List Cel × Int × Int :=
  if (celAt zs right).h + 1 < (celAt zs left).h then turnRS room zs why (celAt zs left) val right
  else if (celAt zs left).h + 1 < (celAt zs right).h then turnLS room zs why left val (celAt zs right)
  else putM room zs why ⟨left, right, 0, val, 0, 0⟩
set_option maxHeartbeats 8000000 in
set_option maxRecDepth 100000 in
theorem elevel {w : World} {B : Nat} {pv : Value} {o : Option Nat} {root had : Int} {room : Nat} {zs : List Cel} {why : Int} (left val right : Int) (h : EDI w B pv o root had room zs why) (hl : 0 ≤ left ∧ left ≤ (zs.length : Int)) (hr : 0 ≤ right ∧ right ≤ (zs.length : Int)) (hv : -9223372036854775808 ≤ val ∧ val ≤ 9223372036854775807)
    (hh1 : 0 ≤ (celAt zs left).h ∧ (celAt zs left).h ≤ 2000000) (hh2 : 0 ≤ (celAt zs right).h ∧ (celAt zs right).h ≤ 2000000) :
    Calls Try.prog 45 #[.pointer (some ⟨B, 0, none⟩), .int .i64 left, .int .i64 val, .int .i64 right] w (EDP B pv o root had room (levelS room zs why left val right).1 (levelS room zs why left val right).2.1 (.int .i64 (levelS room zs why left val right).2.2) w) := by
  obtain ⟨a, rfl⟩ : ∃ a, pv = .pointer a := by
    rcases h.2 with ⟨rfl, _⟩ | ⟨b, rfl, _⟩
    · exact ⟨_, rfl⟩
    · exact ⟨_, rfl⟩
  have hle := h.2.le
  have hlf := celAt_fit h.2.bk left
  have hlo := celAt_ok h.2.oks left
  have hrf := celAt_fit h.2.bk right
  have hro := celAt_ok h.2.oks right
  have HTR : Hid (∀ (X : World) (o : Option Nat), EDI X B (.pointer a) o root had room zs why → Calls Try.prog 49 #[.pointer (some ⟨B, 0, none⟩), .agg #[.int .i64 (celAt zs left).l, .int .i64 (celAt zs left).r, .int .i64 (celAt zs left).k, .int .i64 (celAt zs left).v, .int .i64 (celAt zs left).s, .int .i64 (celAt zs left).h], .int .i64 val, .int .i64 right] X (EDP B (.pointer a) o root had room (turnRS room zs why (celAt zs left) val right).1 (turnRS room zs why (celAt zs left) val right).2.1 (.int .i64 (turnRS room zs why (celAt zs left) val right).2.2) X)) := Lib.hid fun X o h => eturnR (celAt zs left) val right h hlf hlo hr hv
  have HTL : Hid (∀ (X : World) (o : Option Nat), EDI X B (.pointer a) o root had room zs why → Calls Try.prog 50 #[.pointer (some ⟨B, 0, none⟩), .int .i64 left, .int .i64 val, .agg #[.int .i64 (celAt zs right).l, .int .i64 (celAt zs right).r, .int .i64 (celAt zs right).k, .int .i64 (celAt zs right).v, .int .i64 (celAt zs right).s, .int .i64 (celAt zs right).h]] X (EDP B (.pointer a) o root had room (turnLS room zs why left val (celAt zs right)).1 (turnLS room zs why left val (celAt zs right)).2.1 (.int .i64 (turnLS room zs why left val (celAt zs right)).2.2) X)) := Lib.hid fun X o h => eturnL (celAt zs right) val left h hrf hro hl hv
  have HPT : Hid (∀ (X : World) (o : Option Nat), EDI X B (.pointer a) o root had room zs why → Calls Try.prog 35 #[.pointer (some ⟨B, 0, none⟩), .int .i64 left, .int .i64 val, .int .i64 right] X (EDP B (.pointer a) o root had room (putM room zs why ⟨left, right, 0, val, 0, 0⟩).1 (putM room zs why ⟨left, right, 0, val, 0, 0⟩).2.1 (.int .i64 (putM room zs why ⟨left, right, 0, val, 0, 0⟩).2.2) X)) := Lib.hid fun X o h => eput left val right h ⟨hl, hr⟩ (by unfold Cel.ok; simp only; omega)
  unfold levelS
  generalize turnRS room zs why (celAt zs left) val right = qR at HTR ⊢
  generalize turnLS room zs why left val (celAt zs right) = qL at HTL ⊢
  generalize putM room zs why ⟨left, right, 0, val, 0, 0⟩ = qP at HPT ⊢
  obtain ⟨qq, hqq⟩ : ∃ qq, qq = (if (celAt zs right).h + 1 < (celAt zs left).h then qR else if (celAt zs left).h + 1 < (celAt zs right).h then qL else qP) := ⟨_, rfl⟩
  rw [← hqq]
  have HQ := Lib.hid hqq
  clear hqq
  have J0 : Hid (EDS B (.pointer a) root had room w o w o zs why []) := Lib.hid (EDS.start h)
  have w1 : (celAt zs right).h + 1 ≤ 3000000 := by omega
  have w2 : (celAt zs left).h + 1 ≤ 3000000 := by omega
  have w3 := hh1.1
  have w4 := hh2.1
  clear h hle hlf hlo hrf hro hl hr hv hh1 hh2
  go_enter Try.func45, Try.ntmps45
  go_upto_region 1 with fail
  go_cut [9, 10] (fun s9 s10 wx => ∃ g9 g10, s9 = .pointer (some ⟨g9, 0, none⟩) ∧ s10 = .pointer (some ⟨g10, 0, none⟩) ∧ Hid (EDS B (.pointer a) root had room w o wx o zs why [(g9, boxC ⟨(celAt zs left).l, (celAt zs left).r, (celAt zs left).k, (celAt zs left).v, (celAt zs left).s, (celAt zs left).h⟩), (g10, boxC ⟨(celAt zs right).l, (celAt zs right).r, (celAt zs right).k, (celAt zs right).v, (celAt zs right).s, (celAt zs right).h⟩)]))
  case first =>
    have JD1 := Lib.hid J0.out.drew
    refine wp_region_held_drew (S := (fun X => (X.cell? ⟨B, 0, none⟩ = some (.pointer a) ∧ X.cell? ⟨B, 1, none⟩ = some (.int .i64 root)))) (by kernel_rfl) (JD1.out.scells) (fun hHeld0 => ?_)
    refine wpAnyH_take (i := 0) (v := ?_) rfl (by kernel_rfl) (by kernel_rfl) (by kernel_rfl) (fun _ _ _ h => h) (Or.inl ⟨by rfl, ?ylvx1⟩) (by assumption) ?qlvx1
    case ylvx1 => (intro wz hSw; (try dsimp only at hSw); go_simp <;> with_reducible rfl)
    try simp only [Act.put, List.getElem_toArray, List.getElem_cons_zero, List.setIfInBounds_toArray, List.set_cons_zero, List.set_cons_succ]
    refine wpAnyH_take (i := 1) (v := ?_) rfl (by kernel_rfl) (by kernel_rfl) (by kernel_rfl) (fun _ _ _ h => h) (Or.inl ⟨by rfl, ?ylvx2⟩) (by assumption) ?qlvx2
    case ylvx2 => (intro wz hSw; (try dsimp only at hSw); go_simp <;> with_reducible rfl)
    try simp only [Act.put, List.getElem_toArray, List.getElem_cons_zero, List.getElem_cons_succ, List.setIfInBounds_toArray, List.set_cons_zero, List.set_cons_succ]
    refine wpAnyH_take (i := 2) (v := ?_) rfl (by kernel_rfl) (by kernel_rfl) (by kernel_rfl) (fun _ _ _ h => h) (Or.inl ⟨by rfl, ?ylvx3⟩) (by assumption) ?qlvx3
    case ylvx3 => (intro wz hSw; (try dsimp only at hSw); go_simp <;> with_reducible rfl)
    try simp only [Act.put, List.getElem_toArray, List.getElem_cons_zero, List.getElem_cons_succ, List.setIfInBounds_toArray, List.set_cons_zero, List.set_cons_succ]
    refine wpAnyH_take (i := 3) (v := ?_) rfl (by kernel_rfl) (by kernel_rfl) (by kernel_rfl) (fun _ _ _ h => h) (Or.inl ⟨by rfl, ?ylvx4⟩) (by assumption) ?qlvx4
    case ylvx4 => (intro wz hSw; (try dsimp only at hSw); go_simp <;> with_reducible rfl)
    try simp only [Act.put, List.getElem_toArray, List.getElem_cons_zero, List.getElem_cons_succ, List.setIfInBounds_toArray, List.set_cons_zero, List.set_cons_succ]
    refine wpAnyH_take (i := 4) (v := ?_) rfl (by kernel_rfl) (by kernel_rfl) (by kernel_rfl) (fun _ _ _ h => h) (Or.inl ⟨by rfl, ?ylvx5⟩) (by assumption) ?qlvx5
    case ylvx5 => (intro wz hSw; (try dsimp only at hSw); go_simp <;> with_reducible rfl)
    try simp only [Act.put, List.getElem_toArray, List.getElem_cons_zero, List.getElem_cons_succ, List.setIfInBounds_toArray, List.set_cons_zero, List.set_cons_succ]
    refine wpAnyH_take (i := 6) (v := ?_) rfl (by kernel_rfl) (by kernel_rfl) (by kernel_rfl) (fun _ _ _ h => h) (Or.inl ⟨by rfl, ?ylvx6⟩) (by assumption) ?qlvx6
    case ylvx6 => (intro wz hSw; (try dsimp only at hSw); go_simp <;> with_reducible rfl)
    try simp only [Act.put, List.getElem_toArray, List.getElem_cons_zero, List.getElem_cons_succ, List.setIfInBounds_toArray, List.set_cons_zero, List.set_cons_succ]
    refine wpAnyH_take (i := 7) (v := ?_) rfl (by kernel_rfl) (by kernel_rfl) (by kernel_rfl) (fun _ _ _ h => h) (Or.inl ⟨by rfl, ?ylvx7⟩) (by assumption) ?qlvx7
    case ylvx7 => (intro wz hSw; (try dsimp only at hSw); go_simp <;> with_reducible rfl)
    try simp only [Act.put, List.getElem_toArray, List.getElem_cons_zero, List.getElem_cons_succ, List.setIfInBounds_toArray, List.set_cons_zero, List.set_cons_succ]
    refine wpAnyH_take (i := 8) (v := ?_) rfl (by kernel_rfl) (by kernel_rfl) (by kernel_rfl) (fun _ _ _ h => h) (Or.inl ⟨by rfl, ?ylvx8⟩) (by assumption) ?qlvx8
    case ylvx8 => (intro wz hSw; (try dsimp only at hSw); go_simp <;> with_reducible rfl)
    try simp only [Act.put, List.getElem_toArray, List.getElem_cons_zero, List.getElem_cons_succ, List.setIfInBounds_toArray, List.set_cons_zero, List.set_cons_succ]
    refine wpAnyH_take (i := 9) (v := ?_) rfl (by kernel_rfl) (by kernel_rfl) (by kernel_rfl) (fun _ _ _ h => h) (Or.inl ⟨by rfl, ?ylvx9⟩) (by assumption) ?qlvx9
    case ylvx9 => (intro wz hSw; (try dsimp only at hSw); go_simp <;> with_reducible rfl)
    try simp only [Act.put, List.getElem_toArray, List.getElem_cons_zero, List.getElem_cons_succ, List.setIfInBounds_toArray, List.set_cons_zero, List.set_cons_succ]
    refine wpAnyH_take (i := 10) (v := ?_) rfl (by kernel_rfl) (by kernel_rfl) (by kernel_rfl) (fun _ _ _ h => h) (Or.inl ⟨by rfl, ?ylvx10⟩) (by assumption) ?qlvx10
    case ylvx10 => (intro wz hSw; (try dsimp only at hSw); go_simp <;> with_reducible rfl)
    try simp only [Act.put, List.getElem_toArray, List.getElem_cons_zero, List.getElem_cons_succ, List.setIfInBounds_toArray, List.set_cons_zero, List.set_cons_succ]
    refine wpAnyH_ready (rs := [5, 12, 13]) (by kernel_rfl) (by simp) ?_
    refine AllReadyH.cons rfl (fun K hK => ?blvx11) ?clvx11
    case blvx11 =>
      go_simp
      refine (pscell root (left) JD1.out.bi.2).mono ?_
      rintro e wn2 ⟨rfl, hbn2⟩
      have Jn2 := Lib.hid (JD1.out.below hbn2)
      clear hbn2
      try go_wp2_with fail
      refine hK.out _ _ (Jn2.out.scells) (fun hHeld11 => ?_)
      clear hK K
      try simp only [Act.put, List.getElem_toArray, List.getElem_cons_zero, List.getElem_cons_succ, List.setIfInBounds_toArray, List.set_cons_zero, List.set_cons_succ]
      refine wpAnyH_ready (rs := [11, 12, 13]) (by kernel_rfl) (by simp) ?_
      refine AllReadyH.cons rfl (fun K hK => ?blvx12) ?clvx12
      case blvx12 =>
        go_simp
        refine (pscell root (right) Jn2.out.bi.2).mono ?_
        rintro e wn3 ⟨rfl, hbn3⟩
        have Jn3 := Lib.hid (Jn2.out.below hbn3)
        clear hbn3
        try go_wp2_with fail
        refine hK.out _ _ (Jn3.out.scells) (fun hHeld12 => ?_)
        clear hK K
        try simp only [Act.put, List.getElem_toArray, List.getElem_cons_zero, List.getElem_cons_succ, List.setIfInBounds_toArray, List.set_cons_zero, List.set_cons_succ]
        refine wpAnyH_ready (rs := [12, 13]) (by kernel_rfl) (by simp) ?_
        refine AllReadyH.cons rfl (fun K hK => ?blvx13) ?clvx13
        case blvx13 =>
          rw [if_pos (by rfl)]
          refine wp_alloc_cel rfl ?_
          intro g9 wn4 hgn4 hwn4
          have Jn4 : Hid (EDS B (.pointer a) root had room w o wn4 o zs why [(g9, boxC ⟨0, 0, 0, 0, 0, 0⟩)]) := Lib.hid (by rw [hgn4, hwn4]; exact Jn3.out.alloc (boxC Cel.zero))
          clear hgn4 hwn4
          refine hK.out _ _ (Jn4.out.scells) (fun hHeld13 => ?_)
          clear hK K
          try simp only [Act.put, List.getElem_toArray, List.getElem_cons_zero, List.getElem_cons_succ, List.setIfInBounds_toArray, List.set_cons_zero, List.set_cons_succ]
          refine wpAnyH_ready (rs := [13]) (by kernel_rfl) (by simp) ?_
          refine AllReadyH.cons rfl (fun K hK => ?_) AllReadyH.nil
          rw [if_pos (by rfl)]
          refine wp_alloc_cel rfl ?_
          intro g10 wn5 hgn5 hwn5
          have Jn5 : Hid (EDS B (.pointer a) root had room w o wn5 o zs why [(g10, boxC ⟨0, 0, 0, 0, 0, 0⟩), (g9, boxC ⟨0, 0, 0, 0, 0, 0⟩)]) := Lib.hid (by rw [hgn5, hwn5]; exact Jn4.out.alloc (boxC Cel.zero))
          clear hgn5 hwn5
          refine hK.out _ _ (Jn5.out.scells) (fun hHeld14 => ?_)
          clear hK K
          try simp only [Act.put, List.getElem_toArray, List.getElem_cons_zero, List.getElem_cons_succ, List.setIfInBounds_toArray, List.set_cons_zero, List.set_cons_succ]
          refine wpAnyH_ready (rs := [14]) (by kernel_rfl) (by simp) ?_
          refine AllReadyH.cons rfl (fun K hK => ?_) AllReadyH.nil
          have JHn6 := Lib.hid Jn5.out.swap
          rw [if_pos (by rfl)]
          refine wp_store_cel (.tmp 9) (.tmp 16) rfl g9 (⟨(celAt zs left).l, (celAt zs left).r, (celAt zs left).k, (celAt zs left).v, (celAt zs left).s, (celAt zs left).h⟩) ⟨0, 0, 0, 0, 0, 0⟩ rfl rfl (JHn6.out.at_ (List.mem_cons_self ..)) ?_
          intro wn6 hstn6
          have Jn6 : Hid (EDS B (.pointer a) root had room w o wn6 o zs why [(g9, boxC ⟨(celAt zs left).l, (celAt zs left).r, (celAt zs left).k, (celAt zs left).v, (celAt zs left).s, (celAt zs left).h⟩), (g10, boxC ⟨0, 0, 0, 0, 0, 0⟩)]) := Lib.hid (JHn6.out.store hstn6)
          clear hstn6
          refine hK.out _ _ (Jn6.out.scells) (fun hHeld15 => ?_)
          clear hK K
          try simp only [Act.put, List.getElem_toArray, List.getElem_cons_zero, List.getElem_cons_succ]
          refine wpAnyH_ready (rs := [15]) (by kernel_rfl) (by simp) ?_
          refine AllReadyH.cons rfl (fun K hK => ?_) AllReadyH.nil
          have JHn7 := Lib.hid Jn6.out.swap
          rw [if_pos (by rfl)]
          refine wp_store_cel (.tmp 10) (.tmp 22) rfl g10 (⟨(celAt zs right).l, (celAt zs right).r, (celAt zs right).k, (celAt zs right).v, (celAt zs right).s, (celAt zs right).h⟩) ⟨0, 0, 0, 0, 0, 0⟩ rfl rfl (JHn7.out.at_ (List.mem_cons_self ..)) ?_
          intro wn7 hstn7
          have Jn7 : Hid (EDS B (.pointer a) root had room w o wn7 o zs why [(g10, boxC ⟨(celAt zs right).l, (celAt zs right).r, (celAt zs right).k, (celAt zs right).v, (celAt zs right).s, (celAt zs right).h⟩), (g9, boxC ⟨(celAt zs left).l, (celAt zs left).r, (celAt zs left).k, (celAt zs left).v, (celAt zs left).s, (celAt zs left).h⟩)]) := Lib.hid (JHn7.out.store hstn7)
          clear hstn7
          refine hK.out _ _ (Jn7.out.scells) (fun hHeld16 => ?_)
          clear hK K
          try simp only [Act.put, List.getElem_toArray, List.getElem_cons_zero, List.getElem_cons_succ]
          refine wpAnyH_done (by kernel_rfl) ?_ _
          go_wp2_with fail
          go_meet
          case rel => exact ⟨g9, g10, rfl, rfl, Lib.hid (Jn7.out.swap)⟩
        refine AllReadyH.cons rfl (fun K hK => ?blvx17) ?clvx17
        case blvx17 =>
          rw [if_pos (by rfl)]
          refine wp_alloc_cel rfl ?_
          intro g10 wn8 hgn8 hwn8
          have Jn8 : Hid (EDS B (.pointer a) root had room w o wn8 o zs why [(g10, boxC ⟨0, 0, 0, 0, 0, 0⟩)]) := Lib.hid (by rw [hgn8, hwn8]; exact Jn3.out.alloc (boxC Cel.zero))
          clear hgn8 hwn8
          refine hK.out _ _ (Jn8.out.scells) (fun hHeld17 => ?_)
          clear hK K
          try simp only [Act.put, List.getElem_toArray, List.getElem_cons_zero, List.getElem_cons_succ, List.setIfInBounds_toArray, List.set_cons_zero, List.set_cons_succ]
          refine wpAnyH_ready (rs := [12]) (by kernel_rfl) (by simp) ?_
          refine AllReadyH.cons rfl (fun K hK => ?_) AllReadyH.nil
          rw [if_pos (by rfl)]
          refine wp_alloc_cel rfl ?_
          intro g9 wn9 hgn9 hwn9
          have Jn9 : Hid (EDS B (.pointer a) root had room w o wn9 o zs why [(g9, boxC ⟨0, 0, 0, 0, 0, 0⟩), (g10, boxC ⟨0, 0, 0, 0, 0, 0⟩)]) := Lib.hid (by rw [hgn9, hwn9]; exact Jn8.out.alloc (boxC Cel.zero))
          clear hgn9 hwn9
          refine hK.out _ _ (Jn9.out.scells) (fun hHeld18 => ?_)
          clear hK K
          try simp only [Act.put, List.getElem_toArray, List.getElem_cons_zero, List.getElem_cons_succ, List.setIfInBounds_toArray, List.set_cons_zero, List.set_cons_succ]
          refine wpAnyH_ready (rs := [14]) (by kernel_rfl) (by simp) ?_
          refine AllReadyH.cons rfl (fun K hK => ?_) AllReadyH.nil
          rw [if_pos (by rfl)]
          refine wp_store_cel (.tmp 9) (.tmp 16) rfl g9 (⟨(celAt zs left).l, (celAt zs left).r, (celAt zs left).k, (celAt zs left).v, (celAt zs left).s, (celAt zs left).h⟩) ⟨0, 0, 0, 0, 0, 0⟩ rfl rfl (Jn9.out.at_ (List.mem_cons_self ..)) ?_
          intro wn10 hstn10
          have Jn10 : Hid (EDS B (.pointer a) root had room w o wn10 o zs why [(g9, boxC ⟨(celAt zs left).l, (celAt zs left).r, (celAt zs left).k, (celAt zs left).v, (celAt zs left).s, (celAt zs left).h⟩), (g10, boxC ⟨0, 0, 0, 0, 0, 0⟩)]) := Lib.hid (Jn9.out.store hstn10)
          clear hstn10
          refine hK.out _ _ (Jn10.out.scells) (fun hHeld19 => ?_)
          clear hK K
          try simp only [Act.put, List.getElem_toArray, List.getElem_cons_zero, List.getElem_cons_succ]
          refine wpAnyH_ready (rs := [15]) (by kernel_rfl) (by simp) ?_
          refine AllReadyH.cons rfl (fun K hK => ?_) AllReadyH.nil
          have JHn11 := Lib.hid Jn10.out.swap
          rw [if_pos (by rfl)]
          refine wp_store_cel (.tmp 10) (.tmp 22) rfl g10 (⟨(celAt zs right).l, (celAt zs right).r, (celAt zs right).k, (celAt zs right).v, (celAt zs right).s, (celAt zs right).h⟩) ⟨0, 0, 0, 0, 0, 0⟩ rfl rfl (JHn11.out.at_ (List.mem_cons_self ..)) ?_
          intro wn11 hstn11
          have Jn11 : Hid (EDS B (.pointer a) root had room w o wn11 o zs why [(g10, boxC ⟨(celAt zs right).l, (celAt zs right).r, (celAt zs right).k, (celAt zs right).v, (celAt zs right).s, (celAt zs right).h⟩), (g9, boxC ⟨(celAt zs left).l, (celAt zs left).r, (celAt zs left).k, (celAt zs left).v, (celAt zs left).s, (celAt zs left).h⟩)]) := Lib.hid (JHn11.out.store hstn11)
          clear hstn11
          refine hK.out _ _ (Jn11.out.scells) (fun hHeld20 => ?_)
          clear hK K
          try simp only [Act.put, List.getElem_toArray, List.getElem_cons_zero, List.getElem_cons_succ]
          refine wpAnyH_done (by kernel_rfl) ?_ _
          go_wp2_with fail
          go_meet
          case rel => exact ⟨g9, g10, rfl, rfl, Lib.hid (Jn11.out.swap)⟩
        exact AllReadyH.nil
      refine AllReadyH.cons rfl (fun K hK => ?blvx21) ?clvx21
      case blvx21 =>
        rw [if_pos (by rfl)]
        refine wp_alloc_cel rfl ?_
        intro g9 wn12 hgn12 hwn12
        have Jn12 : Hid (EDS B (.pointer a) root had room w o wn12 o zs why [(g9, boxC ⟨0, 0, 0, 0, 0, 0⟩)]) := Lib.hid (by rw [hgn12, hwn12]; exact Jn2.out.alloc (boxC Cel.zero))
        clear hgn12 hwn12
        refine hK.out _ _ (Jn12.out.scells) (fun hHeld21 => ?_)
        clear hK K
        try simp only [Act.put, List.getElem_toArray, List.getElem_cons_zero, List.getElem_cons_succ, List.setIfInBounds_toArray, List.set_cons_zero, List.set_cons_succ]
        refine wpAnyH_ready (rs := [11, 13]) (by kernel_rfl) (by simp) ?_
        refine AllReadyH.cons rfl (fun K hK => ?blvx22) ?clvx22
        case blvx22 =>
          go_simp
          refine (pscell root (right) Jn12.out.bi.2).mono ?_
          rintro e wn13 ⟨rfl, hbn13⟩
          have Jn13 := Lib.hid (Jn12.out.below hbn13)
          clear hbn13
          try go_wp2_with fail
          refine hK.out _ _ (Jn13.out.scells) (fun hHeld22 => ?_)
          clear hK K
          try simp only [Act.put, List.getElem_toArray, List.getElem_cons_zero, List.getElem_cons_succ, List.setIfInBounds_toArray, List.set_cons_zero, List.set_cons_succ]
          refine wpAnyH_ready (rs := [13]) (by kernel_rfl) (by simp) ?_
          refine AllReadyH.cons rfl (fun K hK => ?_) AllReadyH.nil
          rw [if_pos (by rfl)]
          refine wp_alloc_cel rfl ?_
          intro g10 wn14 hgn14 hwn14
          have Jn14 : Hid (EDS B (.pointer a) root had room w o wn14 o zs why [(g10, boxC ⟨0, 0, 0, 0, 0, 0⟩), (g9, boxC ⟨0, 0, 0, 0, 0, 0⟩)]) := Lib.hid (by rw [hgn14, hwn14]; exact Jn13.out.alloc (boxC Cel.zero))
          clear hgn14 hwn14
          refine hK.out _ _ (Jn14.out.scells) (fun hHeld23 => ?_)
          clear hK K
          try simp only [Act.put, List.getElem_toArray, List.getElem_cons_zero, List.getElem_cons_succ, List.setIfInBounds_toArray, List.set_cons_zero, List.set_cons_succ]
          refine wpAnyH_ready (rs := [14]) (by kernel_rfl) (by simp) ?_
          refine AllReadyH.cons rfl (fun K hK => ?_) AllReadyH.nil
          have JHn15 := Lib.hid Jn14.out.swap
          rw [if_pos (by rfl)]
          refine wp_store_cel (.tmp 9) (.tmp 16) rfl g9 (⟨(celAt zs left).l, (celAt zs left).r, (celAt zs left).k, (celAt zs left).v, (celAt zs left).s, (celAt zs left).h⟩) ⟨0, 0, 0, 0, 0, 0⟩ rfl rfl (JHn15.out.at_ (List.mem_cons_self ..)) ?_
          intro wn15 hstn15
          have Jn15 : Hid (EDS B (.pointer a) root had room w o wn15 o zs why [(g9, boxC ⟨(celAt zs left).l, (celAt zs left).r, (celAt zs left).k, (celAt zs left).v, (celAt zs left).s, (celAt zs left).h⟩), (g10, boxC ⟨0, 0, 0, 0, 0, 0⟩)]) := Lib.hid (JHn15.out.store hstn15)
          clear hstn15
          refine hK.out _ _ (Jn15.out.scells) (fun hHeld24 => ?_)
          clear hK K
          try simp only [Act.put, List.getElem_toArray, List.getElem_cons_zero, List.getElem_cons_succ]
          refine wpAnyH_ready (rs := [15]) (by kernel_rfl) (by simp) ?_
          refine AllReadyH.cons rfl (fun K hK => ?_) AllReadyH.nil
          have JHn16 := Lib.hid Jn15.out.swap
          rw [if_pos (by rfl)]
          refine wp_store_cel (.tmp 10) (.tmp 22) rfl g10 (⟨(celAt zs right).l, (celAt zs right).r, (celAt zs right).k, (celAt zs right).v, (celAt zs right).s, (celAt zs right).h⟩) ⟨0, 0, 0, 0, 0, 0⟩ rfl rfl (JHn16.out.at_ (List.mem_cons_self ..)) ?_
          intro wn16 hstn16
          have Jn16 : Hid (EDS B (.pointer a) root had room w o wn16 o zs why [(g10, boxC ⟨(celAt zs right).l, (celAt zs right).r, (celAt zs right).k, (celAt zs right).v, (celAt zs right).s, (celAt zs right).h⟩), (g9, boxC ⟨(celAt zs left).l, (celAt zs left).r, (celAt zs left).k, (celAt zs left).v, (celAt zs left).s, (celAt zs left).h⟩)]) := Lib.hid (JHn16.out.store hstn16)
          clear hstn16
          refine hK.out _ _ (Jn16.out.scells) (fun hHeld25 => ?_)
          clear hK K
          try simp only [Act.put, List.getElem_toArray, List.getElem_cons_zero, List.getElem_cons_succ]
          refine wpAnyH_done (by kernel_rfl) ?_ _
          go_wp2_with fail
          go_meet
          case rel => exact ⟨g9, g10, rfl, rfl, Lib.hid (Jn16.out.swap)⟩
        refine AllReadyH.cons rfl (fun K hK => ?blvx26) ?clvx26
        case blvx26 =>
          rw [if_pos (by rfl)]
          refine wp_alloc_cel rfl ?_
          intro g10 wn17 hgn17 hwn17
          have Jn17 : Hid (EDS B (.pointer a) root had room w o wn17 o zs why [(g10, boxC ⟨0, 0, 0, 0, 0, 0⟩), (g9, boxC ⟨0, 0, 0, 0, 0, 0⟩)]) := Lib.hid (by rw [hgn17, hwn17]; exact Jn12.out.alloc (boxC Cel.zero))
          clear hgn17 hwn17
          refine hK.out _ _ (Jn17.out.scells) (fun hHeld26 => ?_)
          clear hK K
          try simp only [Act.put, List.getElem_toArray, List.getElem_cons_zero, List.getElem_cons_succ, List.setIfInBounds_toArray, List.set_cons_zero, List.set_cons_succ]
          refine wpAnyH_ready (rs := [11]) (by kernel_rfl) (by simp) ?_
          refine AllReadyH.cons rfl (fun K hK => ?_) AllReadyH.nil
          go_simp
          refine (pscell root (right) Jn17.out.bi.2).mono ?_
          rintro e wn18 ⟨rfl, hbn18⟩
          have Jn18 := Lib.hid (Jn17.out.below hbn18)
          clear hbn18
          try go_wp2_with fail
          refine hK.out _ _ (Jn18.out.scells) (fun hHeld27 => ?_)
          clear hK K
          try simp only [Act.put, List.getElem_toArray, List.getElem_cons_zero, List.getElem_cons_succ, List.setIfInBounds_toArray, List.set_cons_zero, List.set_cons_succ]
          refine wpAnyH_ready (rs := [14]) (by kernel_rfl) (by simp) ?_
          refine AllReadyH.cons rfl (fun K hK => ?_) AllReadyH.nil
          have JHn19 := Lib.hid Jn18.out.swap
          rw [if_pos (by rfl)]
          refine wp_store_cel (.tmp 9) (.tmp 16) rfl g9 (⟨(celAt zs left).l, (celAt zs left).r, (celAt zs left).k, (celAt zs left).v, (celAt zs left).s, (celAt zs left).h⟩) ⟨0, 0, 0, 0, 0, 0⟩ rfl rfl (JHn19.out.at_ (List.mem_cons_self ..)) ?_
          intro wn19 hstn19
          have Jn19 : Hid (EDS B (.pointer a) root had room w o wn19 o zs why [(g9, boxC ⟨(celAt zs left).l, (celAt zs left).r, (celAt zs left).k, (celAt zs left).v, (celAt zs left).s, (celAt zs left).h⟩), (g10, boxC ⟨0, 0, 0, 0, 0, 0⟩)]) := Lib.hid (JHn19.out.store hstn19)
          clear hstn19
          refine hK.out _ _ (Jn19.out.scells) (fun hHeld28 => ?_)
          clear hK K
          try simp only [Act.put, List.getElem_toArray, List.getElem_cons_zero, List.getElem_cons_succ]
          refine wpAnyH_ready (rs := [15]) (by kernel_rfl) (by simp) ?_
          refine AllReadyH.cons rfl (fun K hK => ?_) AllReadyH.nil
          have JHn20 := Lib.hid Jn19.out.swap
          rw [if_pos (by rfl)]
          refine wp_store_cel (.tmp 10) (.tmp 22) rfl g10 (⟨(celAt zs right).l, (celAt zs right).r, (celAt zs right).k, (celAt zs right).v, (celAt zs right).s, (celAt zs right).h⟩) ⟨0, 0, 0, 0, 0, 0⟩ rfl rfl (JHn20.out.at_ (List.mem_cons_self ..)) ?_
          intro wn20 hstn20
          have Jn20 : Hid (EDS B (.pointer a) root had room w o wn20 o zs why [(g10, boxC ⟨(celAt zs right).l, (celAt zs right).r, (celAt zs right).k, (celAt zs right).v, (celAt zs right).s, (celAt zs right).h⟩), (g9, boxC ⟨(celAt zs left).l, (celAt zs left).r, (celAt zs left).k, (celAt zs left).v, (celAt zs left).s, (celAt zs left).h⟩)]) := Lib.hid (JHn20.out.store hstn20)
          clear hstn20
          refine hK.out _ _ (Jn20.out.scells) (fun hHeld29 => ?_)
          clear hK K
          try simp only [Act.put, List.getElem_toArray, List.getElem_cons_zero, List.getElem_cons_succ]
          refine wpAnyH_done (by kernel_rfl) ?_ _
          go_wp2_with fail
          go_meet
          case rel => exact ⟨g9, g10, rfl, rfl, Lib.hid (Jn20.out.swap)⟩
        exact AllReadyH.nil
      refine AllReadyH.cons rfl (fun K hK => ?blvx30) ?clvx30
      case blvx30 =>
        rw [if_pos (by rfl)]
        refine wp_alloc_cel rfl ?_
        intro g10 wn21 hgn21 hwn21
        have Jn21 : Hid (EDS B (.pointer a) root had room w o wn21 o zs why [(g10, boxC ⟨0, 0, 0, 0, 0, 0⟩)]) := Lib.hid (by rw [hgn21, hwn21]; exact Jn2.out.alloc (boxC Cel.zero))
        clear hgn21 hwn21
        refine hK.out _ _ (Jn21.out.scells) (fun hHeld30 => ?_)
        clear hK K
        try simp only [Act.put, List.getElem_toArray, List.getElem_cons_zero, List.getElem_cons_succ, List.setIfInBounds_toArray, List.set_cons_zero, List.set_cons_succ]
        refine wpAnyH_ready (rs := [11, 12]) (by kernel_rfl) (by simp) ?_
        refine AllReadyH.cons rfl (fun K hK => ?blvx31) ?clvx31
        case blvx31 =>
          go_simp
          refine (pscell root (right) Jn21.out.bi.2).mono ?_
          rintro e wn22 ⟨rfl, hbn22⟩
          have Jn22 := Lib.hid (Jn21.out.below hbn22)
          clear hbn22
          try go_wp2_with fail
          refine hK.out _ _ (Jn22.out.scells) (fun hHeld31 => ?_)
          clear hK K
          try simp only [Act.put, List.getElem_toArray, List.getElem_cons_zero, List.getElem_cons_succ, List.setIfInBounds_toArray, List.set_cons_zero, List.set_cons_succ]
          refine wpAnyH_ready (rs := [12]) (by kernel_rfl) (by simp) ?_
          refine AllReadyH.cons rfl (fun K hK => ?_) AllReadyH.nil
          rw [if_pos (by rfl)]
          refine wp_alloc_cel rfl ?_
          intro g9 wn23 hgn23 hwn23
          have Jn23 : Hid (EDS B (.pointer a) root had room w o wn23 o zs why [(g9, boxC ⟨0, 0, 0, 0, 0, 0⟩), (g10, boxC ⟨0, 0, 0, 0, 0, 0⟩)]) := Lib.hid (by rw [hgn23, hwn23]; exact Jn22.out.alloc (boxC Cel.zero))
          clear hgn23 hwn23
          refine hK.out _ _ (Jn23.out.scells) (fun hHeld32 => ?_)
          clear hK K
          try simp only [Act.put, List.getElem_toArray, List.getElem_cons_zero, List.getElem_cons_succ, List.setIfInBounds_toArray, List.set_cons_zero, List.set_cons_succ]
          refine wpAnyH_ready (rs := [14]) (by kernel_rfl) (by simp) ?_
          refine AllReadyH.cons rfl (fun K hK => ?_) AllReadyH.nil
          rw [if_pos (by rfl)]
          refine wp_store_cel (.tmp 9) (.tmp 16) rfl g9 (⟨(celAt zs left).l, (celAt zs left).r, (celAt zs left).k, (celAt zs left).v, (celAt zs left).s, (celAt zs left).h⟩) ⟨0, 0, 0, 0, 0, 0⟩ rfl rfl (Jn23.out.at_ (List.mem_cons_self ..)) ?_
          intro wn24 hstn24
          have Jn24 : Hid (EDS B (.pointer a) root had room w o wn24 o zs why [(g9, boxC ⟨(celAt zs left).l, (celAt zs left).r, (celAt zs left).k, (celAt zs left).v, (celAt zs left).s, (celAt zs left).h⟩), (g10, boxC ⟨0, 0, 0, 0, 0, 0⟩)]) := Lib.hid (Jn23.out.store hstn24)
          clear hstn24
          refine hK.out _ _ (Jn24.out.scells) (fun hHeld33 => ?_)
          clear hK K
          try simp only [Act.put, List.getElem_toArray, List.getElem_cons_zero, List.getElem_cons_succ]
          refine wpAnyH_ready (rs := [15]) (by kernel_rfl) (by simp) ?_
          refine AllReadyH.cons rfl (fun K hK => ?_) AllReadyH.nil
          have JHn25 := Lib.hid Jn24.out.swap
          rw [if_pos (by rfl)]
          refine wp_store_cel (.tmp 10) (.tmp 22) rfl g10 (⟨(celAt zs right).l, (celAt zs right).r, (celAt zs right).k, (celAt zs right).v, (celAt zs right).s, (celAt zs right).h⟩) ⟨0, 0, 0, 0, 0, 0⟩ rfl rfl (JHn25.out.at_ (List.mem_cons_self ..)) ?_
          intro wn25 hstn25
          have Jn25 : Hid (EDS B (.pointer a) root had room w o wn25 o zs why [(g10, boxC ⟨(celAt zs right).l, (celAt zs right).r, (celAt zs right).k, (celAt zs right).v, (celAt zs right).s, (celAt zs right).h⟩), (g9, boxC ⟨(celAt zs left).l, (celAt zs left).r, (celAt zs left).k, (celAt zs left).v, (celAt zs left).s, (celAt zs left).h⟩)]) := Lib.hid (JHn25.out.store hstn25)
          clear hstn25
          refine hK.out _ _ (Jn25.out.scells) (fun hHeld34 => ?_)
          clear hK K
          try simp only [Act.put, List.getElem_toArray, List.getElem_cons_zero, List.getElem_cons_succ]
          refine wpAnyH_done (by kernel_rfl) ?_ _
          go_wp2_with fail
          go_meet
          case rel => exact ⟨g9, g10, rfl, rfl, Lib.hid (Jn25.out.swap)⟩
        refine AllReadyH.cons rfl (fun K hK => ?blvx35) ?clvx35
        case blvx35 =>
          rw [if_pos (by rfl)]
          refine wp_alloc_cel rfl ?_
          intro g9 wn26 hgn26 hwn26
          have Jn26 : Hid (EDS B (.pointer a) root had room w o wn26 o zs why [(g9, boxC ⟨0, 0, 0, 0, 0, 0⟩), (g10, boxC ⟨0, 0, 0, 0, 0, 0⟩)]) := Lib.hid (by rw [hgn26, hwn26]; exact Jn21.out.alloc (boxC Cel.zero))
          clear hgn26 hwn26
          refine hK.out _ _ (Jn26.out.scells) (fun hHeld35 => ?_)
          clear hK K
          try simp only [Act.put, List.getElem_toArray, List.getElem_cons_zero, List.getElem_cons_succ, List.setIfInBounds_toArray, List.set_cons_zero, List.set_cons_succ]
          refine wpAnyH_ready (rs := [11]) (by kernel_rfl) (by simp) ?_
          refine AllReadyH.cons rfl (fun K hK => ?_) AllReadyH.nil
          go_simp
          refine (pscell root (right) Jn26.out.bi.2).mono ?_
          rintro e wn27 ⟨rfl, hbn27⟩
          have Jn27 := Lib.hid (Jn26.out.below hbn27)
          clear hbn27
          try go_wp2_with fail
          refine hK.out _ _ (Jn27.out.scells) (fun hHeld36 => ?_)
          clear hK K
          try simp only [Act.put, List.getElem_toArray, List.getElem_cons_zero, List.getElem_cons_succ, List.setIfInBounds_toArray, List.set_cons_zero, List.set_cons_succ]
          refine wpAnyH_ready (rs := [14]) (by kernel_rfl) (by simp) ?_
          refine AllReadyH.cons rfl (fun K hK => ?_) AllReadyH.nil
          rw [if_pos (by rfl)]
          refine wp_store_cel (.tmp 9) (.tmp 16) rfl g9 (⟨(celAt zs left).l, (celAt zs left).r, (celAt zs left).k, (celAt zs left).v, (celAt zs left).s, (celAt zs left).h⟩) ⟨0, 0, 0, 0, 0, 0⟩ rfl rfl (Jn27.out.at_ (List.mem_cons_self ..)) ?_
          intro wn28 hstn28
          have Jn28 : Hid (EDS B (.pointer a) root had room w o wn28 o zs why [(g9, boxC ⟨(celAt zs left).l, (celAt zs left).r, (celAt zs left).k, (celAt zs left).v, (celAt zs left).s, (celAt zs left).h⟩), (g10, boxC ⟨0, 0, 0, 0, 0, 0⟩)]) := Lib.hid (Jn27.out.store hstn28)
          clear hstn28
          refine hK.out _ _ (Jn28.out.scells) (fun hHeld37 => ?_)
          clear hK K
          try simp only [Act.put, List.getElem_toArray, List.getElem_cons_zero, List.getElem_cons_succ]
          refine wpAnyH_ready (rs := [15]) (by kernel_rfl) (by simp) ?_
          refine AllReadyH.cons rfl (fun K hK => ?_) AllReadyH.nil
          have JHn29 := Lib.hid Jn28.out.swap
          rw [if_pos (by rfl)]
          refine wp_store_cel (.tmp 10) (.tmp 22) rfl g10 (⟨(celAt zs right).l, (celAt zs right).r, (celAt zs right).k, (celAt zs right).v, (celAt zs right).s, (celAt zs right).h⟩) ⟨0, 0, 0, 0, 0, 0⟩ rfl rfl (JHn29.out.at_ (List.mem_cons_self ..)) ?_
          intro wn29 hstn29
          have Jn29 : Hid (EDS B (.pointer a) root had room w o wn29 o zs why [(g10, boxC ⟨(celAt zs right).l, (celAt zs right).r, (celAt zs right).k, (celAt zs right).v, (celAt zs right).s, (celAt zs right).h⟩), (g9, boxC ⟨(celAt zs left).l, (celAt zs left).r, (celAt zs left).k, (celAt zs left).v, (celAt zs left).s, (celAt zs left).h⟩)]) := Lib.hid (JHn29.out.store hstn29)
          clear hstn29
          refine hK.out _ _ (Jn29.out.scells) (fun hHeld38 => ?_)
          clear hK K
          try simp only [Act.put, List.getElem_toArray, List.getElem_cons_zero, List.getElem_cons_succ]
          refine wpAnyH_done (by kernel_rfl) ?_ _
          go_wp2_with fail
          go_meet
          case rel => exact ⟨g9, g10, rfl, rfl, Lib.hid (Jn29.out.swap)⟩
        exact AllReadyH.nil
      exact AllReadyH.nil
    refine AllReadyH.cons rfl (fun K hK => ?blvx39) ?clvx39
    case blvx39 =>
      rw [if_pos (by rfl)]
      refine wp_alloc_cel rfl ?_
      intro g9 wn30 hgn30 hwn30
      have Jn30 : Hid (EDS B (.pointer a) root had room w o wn30 o zs why [(g9, boxC ⟨0, 0, 0, 0, 0, 0⟩)]) := Lib.hid (by rw [hgn30, hwn30]; exact JD1.out.alloc (boxC Cel.zero))
      clear hgn30 hwn30
      refine hK.out _ _ (Jn30.out.scells) (fun hHeld39 => ?_)
      clear hK K
      try simp only [Act.put, List.getElem_toArray, List.getElem_cons_zero, List.getElem_cons_succ, List.setIfInBounds_toArray, List.set_cons_zero, List.set_cons_succ]
      refine wpAnyH_ready (rs := [5, 13]) (by kernel_rfl) (by simp) ?_
      refine AllReadyH.cons rfl (fun K hK => ?blvx40) ?clvx40
      case blvx40 =>
        go_simp
        refine (pscell root (left) Jn30.out.bi.2).mono ?_
        rintro e wn31 ⟨rfl, hbn31⟩
        have Jn31 := Lib.hid (Jn30.out.below hbn31)
        clear hbn31
        try go_wp2_with fail
        refine hK.out _ _ (Jn31.out.scells) (fun hHeld40 => ?_)
        clear hK K
        try simp only [Act.put, List.getElem_toArray, List.getElem_cons_zero, List.getElem_cons_succ, List.setIfInBounds_toArray, List.set_cons_zero, List.set_cons_succ]
        refine wpAnyH_ready (rs := [11, 13]) (by kernel_rfl) (by simp) ?_
        refine AllReadyH.cons rfl (fun K hK => ?blvx41) ?clvx41
        case blvx41 =>
          go_simp
          refine (pscell root (right) Jn31.out.bi.2).mono ?_
          rintro e wn32 ⟨rfl, hbn32⟩
          have Jn32 := Lib.hid (Jn31.out.below hbn32)
          clear hbn32
          try go_wp2_with fail
          refine hK.out _ _ (Jn32.out.scells) (fun hHeld41 => ?_)
          clear hK K
          try simp only [Act.put, List.getElem_toArray, List.getElem_cons_zero, List.getElem_cons_succ, List.setIfInBounds_toArray, List.set_cons_zero, List.set_cons_succ]
          refine wpAnyH_ready (rs := [13]) (by kernel_rfl) (by simp) ?_
          refine AllReadyH.cons rfl (fun K hK => ?_) AllReadyH.nil
          rw [if_pos (by rfl)]
          refine wp_alloc_cel rfl ?_
          intro g10 wn33 hgn33 hwn33
          have Jn33 : Hid (EDS B (.pointer a) root had room w o wn33 o zs why [(g10, boxC ⟨0, 0, 0, 0, 0, 0⟩), (g9, boxC ⟨0, 0, 0, 0, 0, 0⟩)]) := Lib.hid (by rw [hgn33, hwn33]; exact Jn32.out.alloc (boxC Cel.zero))
          clear hgn33 hwn33
          refine hK.out _ _ (Jn33.out.scells) (fun hHeld42 => ?_)
          clear hK K
          try simp only [Act.put, List.getElem_toArray, List.getElem_cons_zero, List.getElem_cons_succ, List.setIfInBounds_toArray, List.set_cons_zero, List.set_cons_succ]
          refine wpAnyH_ready (rs := [14]) (by kernel_rfl) (by simp) ?_
          refine AllReadyH.cons rfl (fun K hK => ?_) AllReadyH.nil
          have JHn34 := Lib.hid Jn33.out.swap
          rw [if_pos (by rfl)]
          refine wp_store_cel (.tmp 9) (.tmp 16) rfl g9 (⟨(celAt zs left).l, (celAt zs left).r, (celAt zs left).k, (celAt zs left).v, (celAt zs left).s, (celAt zs left).h⟩) ⟨0, 0, 0, 0, 0, 0⟩ rfl rfl (JHn34.out.at_ (List.mem_cons_self ..)) ?_
          intro wn34 hstn34
          have Jn34 : Hid (EDS B (.pointer a) root had room w o wn34 o zs why [(g9, boxC ⟨(celAt zs left).l, (celAt zs left).r, (celAt zs left).k, (celAt zs left).v, (celAt zs left).s, (celAt zs left).h⟩), (g10, boxC ⟨0, 0, 0, 0, 0, 0⟩)]) := Lib.hid (JHn34.out.store hstn34)
          clear hstn34
          refine hK.out _ _ (Jn34.out.scells) (fun hHeld43 => ?_)
          clear hK K
          try simp only [Act.put, List.getElem_toArray, List.getElem_cons_zero, List.getElem_cons_succ]
          refine wpAnyH_ready (rs := [15]) (by kernel_rfl) (by simp) ?_
          refine AllReadyH.cons rfl (fun K hK => ?_) AllReadyH.nil
          have JHn35 := Lib.hid Jn34.out.swap
          rw [if_pos (by rfl)]
          refine wp_store_cel (.tmp 10) (.tmp 22) rfl g10 (⟨(celAt zs right).l, (celAt zs right).r, (celAt zs right).k, (celAt zs right).v, (celAt zs right).s, (celAt zs right).h⟩) ⟨0, 0, 0, 0, 0, 0⟩ rfl rfl (JHn35.out.at_ (List.mem_cons_self ..)) ?_
          intro wn35 hstn35
          have Jn35 : Hid (EDS B (.pointer a) root had room w o wn35 o zs why [(g10, boxC ⟨(celAt zs right).l, (celAt zs right).r, (celAt zs right).k, (celAt zs right).v, (celAt zs right).s, (celAt zs right).h⟩), (g9, boxC ⟨(celAt zs left).l, (celAt zs left).r, (celAt zs left).k, (celAt zs left).v, (celAt zs left).s, (celAt zs left).h⟩)]) := Lib.hid (JHn35.out.store hstn35)
          clear hstn35
          refine hK.out _ _ (Jn35.out.scells) (fun hHeld44 => ?_)
          clear hK K
          try simp only [Act.put, List.getElem_toArray, List.getElem_cons_zero, List.getElem_cons_succ]
          refine wpAnyH_done (by kernel_rfl) ?_ _
          go_wp2_with fail
          go_meet
          case rel => exact ⟨g9, g10, rfl, rfl, Lib.hid (Jn35.out.swap)⟩
        refine AllReadyH.cons rfl (fun K hK => ?blvx45) ?clvx45
        case blvx45 =>
          rw [if_pos (by rfl)]
          refine wp_alloc_cel rfl ?_
          intro g10 wn36 hgn36 hwn36
          have Jn36 : Hid (EDS B (.pointer a) root had room w o wn36 o zs why [(g10, boxC ⟨0, 0, 0, 0, 0, 0⟩), (g9, boxC ⟨0, 0, 0, 0, 0, 0⟩)]) := Lib.hid (by rw [hgn36, hwn36]; exact Jn31.out.alloc (boxC Cel.zero))
          clear hgn36 hwn36
          refine hK.out _ _ (Jn36.out.scells) (fun hHeld45 => ?_)
          clear hK K
          try simp only [Act.put, List.getElem_toArray, List.getElem_cons_zero, List.getElem_cons_succ, List.setIfInBounds_toArray, List.set_cons_zero, List.set_cons_succ]
          refine wpAnyH_ready (rs := [11]) (by kernel_rfl) (by simp) ?_
          refine AllReadyH.cons rfl (fun K hK => ?_) AllReadyH.nil
          go_simp
          refine (pscell root (right) Jn36.out.bi.2).mono ?_
          rintro e wn37 ⟨rfl, hbn37⟩
          have Jn37 := Lib.hid (Jn36.out.below hbn37)
          clear hbn37
          try go_wp2_with fail
          refine hK.out _ _ (Jn37.out.scells) (fun hHeld46 => ?_)
          clear hK K
          try simp only [Act.put, List.getElem_toArray, List.getElem_cons_zero, List.getElem_cons_succ, List.setIfInBounds_toArray, List.set_cons_zero, List.set_cons_succ]
          refine wpAnyH_ready (rs := [14]) (by kernel_rfl) (by simp) ?_
          refine AllReadyH.cons rfl (fun K hK => ?_) AllReadyH.nil
          have JHn38 := Lib.hid Jn37.out.swap
          rw [if_pos (by rfl)]
          refine wp_store_cel (.tmp 9) (.tmp 16) rfl g9 (⟨(celAt zs left).l, (celAt zs left).r, (celAt zs left).k, (celAt zs left).v, (celAt zs left).s, (celAt zs left).h⟩) ⟨0, 0, 0, 0, 0, 0⟩ rfl rfl (JHn38.out.at_ (List.mem_cons_self ..)) ?_
          intro wn38 hstn38
          have Jn38 : Hid (EDS B (.pointer a) root had room w o wn38 o zs why [(g9, boxC ⟨(celAt zs left).l, (celAt zs left).r, (celAt zs left).k, (celAt zs left).v, (celAt zs left).s, (celAt zs left).h⟩), (g10, boxC ⟨0, 0, 0, 0, 0, 0⟩)]) := Lib.hid (JHn38.out.store hstn38)
          clear hstn38
          refine hK.out _ _ (Jn38.out.scells) (fun hHeld47 => ?_)
          clear hK K
          try simp only [Act.put, List.getElem_toArray, List.getElem_cons_zero, List.getElem_cons_succ]
          refine wpAnyH_ready (rs := [15]) (by kernel_rfl) (by simp) ?_
          refine AllReadyH.cons rfl (fun K hK => ?_) AllReadyH.nil
          have JHn39 := Lib.hid Jn38.out.swap
          rw [if_pos (by rfl)]
          refine wp_store_cel (.tmp 10) (.tmp 22) rfl g10 (⟨(celAt zs right).l, (celAt zs right).r, (celAt zs right).k, (celAt zs right).v, (celAt zs right).s, (celAt zs right).h⟩) ⟨0, 0, 0, 0, 0, 0⟩ rfl rfl (JHn39.out.at_ (List.mem_cons_self ..)) ?_
          intro wn39 hstn39
          have Jn39 : Hid (EDS B (.pointer a) root had room w o wn39 o zs why [(g10, boxC ⟨(celAt zs right).l, (celAt zs right).r, (celAt zs right).k, (celAt zs right).v, (celAt zs right).s, (celAt zs right).h⟩), (g9, boxC ⟨(celAt zs left).l, (celAt zs left).r, (celAt zs left).k, (celAt zs left).v, (celAt zs left).s, (celAt zs left).h⟩)]) := Lib.hid (JHn39.out.store hstn39)
          clear hstn39
          refine hK.out _ _ (Jn39.out.scells) (fun hHeld48 => ?_)
          clear hK K
          try simp only [Act.put, List.getElem_toArray, List.getElem_cons_zero, List.getElem_cons_succ]
          refine wpAnyH_done (by kernel_rfl) ?_ _
          go_wp2_with fail
          go_meet
          case rel => exact ⟨g9, g10, rfl, rfl, Lib.hid (Jn39.out.swap)⟩
        exact AllReadyH.nil
      refine AllReadyH.cons rfl (fun K hK => ?blvx49) ?clvx49
      case blvx49 =>
        rw [if_pos (by rfl)]
        refine wp_alloc_cel rfl ?_
        intro g10 wn40 hgn40 hwn40
        have Jn40 : Hid (EDS B (.pointer a) root had room w o wn40 o zs why [(g10, boxC ⟨0, 0, 0, 0, 0, 0⟩), (g9, boxC ⟨0, 0, 0, 0, 0, 0⟩)]) := Lib.hid (by rw [hgn40, hwn40]; exact Jn30.out.alloc (boxC Cel.zero))
        clear hgn40 hwn40
        refine hK.out _ _ (Jn40.out.scells) (fun hHeld49 => ?_)
        clear hK K
        try simp only [Act.put, List.getElem_toArray, List.getElem_cons_zero, List.getElem_cons_succ, List.setIfInBounds_toArray, List.set_cons_zero, List.set_cons_succ]
        refine wpAnyH_ready (rs := [5]) (by kernel_rfl) (by simp) ?_
        refine AllReadyH.cons rfl (fun K hK => ?_) AllReadyH.nil
        go_simp
        refine (pscell root (left) Jn40.out.bi.2).mono ?_
        rintro e wn41 ⟨rfl, hbn41⟩
        have Jn41 := Lib.hid (Jn40.out.below hbn41)
        clear hbn41
        try go_wp2_with fail
        refine hK.out _ _ (Jn41.out.scells) (fun hHeld50 => ?_)
        clear hK K
        try simp only [Act.put, List.getElem_toArray, List.getElem_cons_zero, List.getElem_cons_succ, List.setIfInBounds_toArray, List.set_cons_zero, List.set_cons_succ]
        refine wpAnyH_ready (rs := [11]) (by kernel_rfl) (by simp) ?_
        refine AllReadyH.cons rfl (fun K hK => ?_) AllReadyH.nil
        go_simp
        refine (pscell root (right) Jn41.out.bi.2).mono ?_
        rintro e wn42 ⟨rfl, hbn42⟩
        have Jn42 := Lib.hid (Jn41.out.below hbn42)
        clear hbn42
        try go_wp2_with fail
        refine hK.out _ _ (Jn42.out.scells) (fun hHeld51 => ?_)
        clear hK K
        try simp only [Act.put, List.getElem_toArray, List.getElem_cons_zero, List.getElem_cons_succ, List.setIfInBounds_toArray, List.set_cons_zero, List.set_cons_succ]
        refine wpAnyH_ready (rs := [14]) (by kernel_rfl) (by simp) ?_
        refine AllReadyH.cons rfl (fun K hK => ?_) AllReadyH.nil
        have JHn43 := Lib.hid Jn42.out.swap
        rw [if_pos (by rfl)]
        refine wp_store_cel (.tmp 9) (.tmp 16) rfl g9 (⟨(celAt zs left).l, (celAt zs left).r, (celAt zs left).k, (celAt zs left).v, (celAt zs left).s, (celAt zs left).h⟩) ⟨0, 0, 0, 0, 0, 0⟩ rfl rfl (JHn43.out.at_ (List.mem_cons_self ..)) ?_
        intro wn43 hstn43
        have Jn43 : Hid (EDS B (.pointer a) root had room w o wn43 o zs why [(g9, boxC ⟨(celAt zs left).l, (celAt zs left).r, (celAt zs left).k, (celAt zs left).v, (celAt zs left).s, (celAt zs left).h⟩), (g10, boxC ⟨0, 0, 0, 0, 0, 0⟩)]) := Lib.hid (JHn43.out.store hstn43)
        clear hstn43
        refine hK.out _ _ (Jn43.out.scells) (fun hHeld52 => ?_)
        clear hK K
        try simp only [Act.put, List.getElem_toArray, List.getElem_cons_zero, List.getElem_cons_succ]
        refine wpAnyH_ready (rs := [15]) (by kernel_rfl) (by simp) ?_
        refine AllReadyH.cons rfl (fun K hK => ?_) AllReadyH.nil
        have JHn44 := Lib.hid Jn43.out.swap
        rw [if_pos (by rfl)]
        refine wp_store_cel (.tmp 10) (.tmp 22) rfl g10 (⟨(celAt zs right).l, (celAt zs right).r, (celAt zs right).k, (celAt zs right).v, (celAt zs right).s, (celAt zs right).h⟩) ⟨0, 0, 0, 0, 0, 0⟩ rfl rfl (JHn44.out.at_ (List.mem_cons_self ..)) ?_
        intro wn44 hstn44
        have Jn44 : Hid (EDS B (.pointer a) root had room w o wn44 o zs why [(g10, boxC ⟨(celAt zs right).l, (celAt zs right).r, (celAt zs right).k, (celAt zs right).v, (celAt zs right).s, (celAt zs right).h⟩), (g9, boxC ⟨(celAt zs left).l, (celAt zs left).r, (celAt zs left).k, (celAt zs left).v, (celAt zs left).s, (celAt zs left).h⟩)]) := Lib.hid (JHn44.out.store hstn44)
        clear hstn44
        refine hK.out _ _ (Jn44.out.scells) (fun hHeld53 => ?_)
        clear hK K
        try simp only [Act.put, List.getElem_toArray, List.getElem_cons_zero, List.getElem_cons_succ]
        refine wpAnyH_done (by kernel_rfl) ?_ _
        go_wp2_with fail
        go_meet
        case rel => exact ⟨g9, g10, rfl, rfl, Lib.hid (Jn44.out.swap)⟩
      exact AllReadyH.nil
    refine AllReadyH.cons rfl (fun K hK => ?blvx54) ?clvx54
    case blvx54 =>
      rw [if_pos (by rfl)]
      refine wp_alloc_cel rfl ?_
      intro g10 wn45 hgn45 hwn45
      have Jn45 : Hid (EDS B (.pointer a) root had room w o wn45 o zs why [(g10, boxC ⟨0, 0, 0, 0, 0, 0⟩)]) := Lib.hid (by rw [hgn45, hwn45]; exact JD1.out.alloc (boxC Cel.zero))
      clear hgn45 hwn45
      refine hK.out _ _ (Jn45.out.scells) (fun hHeld54 => ?_)
      clear hK K
      try simp only [Act.put, List.getElem_toArray, List.getElem_cons_zero, List.getElem_cons_succ, List.setIfInBounds_toArray, List.set_cons_zero, List.set_cons_succ]
      refine wpAnyH_ready (rs := [5, 12]) (by kernel_rfl) (by simp) ?_
      refine AllReadyH.cons rfl (fun K hK => ?blvx55) ?clvx55
      case blvx55 =>
        go_simp
        refine (pscell root (left) Jn45.out.bi.2).mono ?_
        rintro e wn46 ⟨rfl, hbn46⟩
        have Jn46 := Lib.hid (Jn45.out.below hbn46)
        clear hbn46
        try go_wp2_with fail
        refine hK.out _ _ (Jn46.out.scells) (fun hHeld55 => ?_)
        clear hK K
        try simp only [Act.put, List.getElem_toArray, List.getElem_cons_zero, List.getElem_cons_succ, List.setIfInBounds_toArray, List.set_cons_zero, List.set_cons_succ]
        refine wpAnyH_ready (rs := [11, 12]) (by kernel_rfl) (by simp) ?_
        refine AllReadyH.cons rfl (fun K hK => ?blvx56) ?clvx56
        case blvx56 =>
          go_simp
          refine (pscell root (right) Jn46.out.bi.2).mono ?_
          rintro e wn47 ⟨rfl, hbn47⟩
          have Jn47 := Lib.hid (Jn46.out.below hbn47)
          clear hbn47
          try go_wp2_with fail
          refine hK.out _ _ (Jn47.out.scells) (fun hHeld56 => ?_)
          clear hK K
          try simp only [Act.put, List.getElem_toArray, List.getElem_cons_zero, List.getElem_cons_succ, List.setIfInBounds_toArray, List.set_cons_zero, List.set_cons_succ]
          refine wpAnyH_ready (rs := [12]) (by kernel_rfl) (by simp) ?_
          refine AllReadyH.cons rfl (fun K hK => ?_) AllReadyH.nil
          rw [if_pos (by rfl)]
          refine wp_alloc_cel rfl ?_
          intro g9 wn48 hgn48 hwn48
          have Jn48 : Hid (EDS B (.pointer a) root had room w o wn48 o zs why [(g9, boxC ⟨0, 0, 0, 0, 0, 0⟩), (g10, boxC ⟨0, 0, 0, 0, 0, 0⟩)]) := Lib.hid (by rw [hgn48, hwn48]; exact Jn47.out.alloc (boxC Cel.zero))
          clear hgn48 hwn48
          refine hK.out _ _ (Jn48.out.scells) (fun hHeld57 => ?_)
          clear hK K
          try simp only [Act.put, List.getElem_toArray, List.getElem_cons_zero, List.getElem_cons_succ, List.setIfInBounds_toArray, List.set_cons_zero, List.set_cons_succ]
          refine wpAnyH_ready (rs := [14]) (by kernel_rfl) (by simp) ?_
          refine AllReadyH.cons rfl (fun K hK => ?_) AllReadyH.nil
          rw [if_pos (by rfl)]
          refine wp_store_cel (.tmp 9) (.tmp 16) rfl g9 (⟨(celAt zs left).l, (celAt zs left).r, (celAt zs left).k, (celAt zs left).v, (celAt zs left).s, (celAt zs left).h⟩) ⟨0, 0, 0, 0, 0, 0⟩ rfl rfl (Jn48.out.at_ (List.mem_cons_self ..)) ?_
          intro wn49 hstn49
          have Jn49 : Hid (EDS B (.pointer a) root had room w o wn49 o zs why [(g9, boxC ⟨(celAt zs left).l, (celAt zs left).r, (celAt zs left).k, (celAt zs left).v, (celAt zs left).s, (celAt zs left).h⟩), (g10, boxC ⟨0, 0, 0, 0, 0, 0⟩)]) := Lib.hid (Jn48.out.store hstn49)
          clear hstn49
          refine hK.out _ _ (Jn49.out.scells) (fun hHeld58 => ?_)
          clear hK K
          try simp only [Act.put, List.getElem_toArray, List.getElem_cons_zero, List.getElem_cons_succ]
          refine wpAnyH_ready (rs := [15]) (by kernel_rfl) (by simp) ?_
          refine AllReadyH.cons rfl (fun K hK => ?_) AllReadyH.nil
          have JHn50 := Lib.hid Jn49.out.swap
          rw [if_pos (by rfl)]
          refine wp_store_cel (.tmp 10) (.tmp 22) rfl g10 (⟨(celAt zs right).l, (celAt zs right).r, (celAt zs right).k, (celAt zs right).v, (celAt zs right).s, (celAt zs right).h⟩) ⟨0, 0, 0, 0, 0, 0⟩ rfl rfl (JHn50.out.at_ (List.mem_cons_self ..)) ?_
          intro wn50 hstn50
          have Jn50 : Hid (EDS B (.pointer a) root had room w o wn50 o zs why [(g10, boxC ⟨(celAt zs right).l, (celAt zs right).r, (celAt zs right).k, (celAt zs right).v, (celAt zs right).s, (celAt zs right).h⟩), (g9, boxC ⟨(celAt zs left).l, (celAt zs left).r, (celAt zs left).k, (celAt zs left).v, (celAt zs left).s, (celAt zs left).h⟩)]) := Lib.hid (JHn50.out.store hstn50)
          clear hstn50
          refine hK.out _ _ (Jn50.out.scells) (fun hHeld59 => ?_)
          clear hK K
          try simp only [Act.put, List.getElem_toArray, List.getElem_cons_zero, List.getElem_cons_succ]
          refine wpAnyH_done (by kernel_rfl) ?_ _
          go_wp2_with fail
          go_meet
          case rel => exact ⟨g9, g10, rfl, rfl, Lib.hid (Jn50.out.swap)⟩
        refine AllReadyH.cons rfl (fun K hK => ?blvx60) ?clvx60
        case blvx60 =>
          rw [if_pos (by rfl)]
          refine wp_alloc_cel rfl ?_
          intro g9 wn51 hgn51 hwn51
          have Jn51 : Hid (EDS B (.pointer a) root had room w o wn51 o zs why [(g9, boxC ⟨0, 0, 0, 0, 0, 0⟩), (g10, boxC ⟨0, 0, 0, 0, 0, 0⟩)]) := Lib.hid (by rw [hgn51, hwn51]; exact Jn46.out.alloc (boxC Cel.zero))
          clear hgn51 hwn51
          refine hK.out _ _ (Jn51.out.scells) (fun hHeld60 => ?_)
          clear hK K
          try simp only [Act.put, List.getElem_toArray, List.getElem_cons_zero, List.getElem_cons_succ, List.setIfInBounds_toArray, List.set_cons_zero, List.set_cons_succ]
          refine wpAnyH_ready (rs := [11]) (by kernel_rfl) (by simp) ?_
          refine AllReadyH.cons rfl (fun K hK => ?_) AllReadyH.nil
          go_simp
          refine (pscell root (right) Jn51.out.bi.2).mono ?_
          rintro e wn52 ⟨rfl, hbn52⟩
          have Jn52 := Lib.hid (Jn51.out.below hbn52)
          clear hbn52
          try go_wp2_with fail
          refine hK.out _ _ (Jn52.out.scells) (fun hHeld61 => ?_)
          clear hK K
          try simp only [Act.put, List.getElem_toArray, List.getElem_cons_zero, List.getElem_cons_succ, List.setIfInBounds_toArray, List.set_cons_zero, List.set_cons_succ]
          refine wpAnyH_ready (rs := [14]) (by kernel_rfl) (by simp) ?_
          refine AllReadyH.cons rfl (fun K hK => ?_) AllReadyH.nil
          rw [if_pos (by rfl)]
          refine wp_store_cel (.tmp 9) (.tmp 16) rfl g9 (⟨(celAt zs left).l, (celAt zs left).r, (celAt zs left).k, (celAt zs left).v, (celAt zs left).s, (celAt zs left).h⟩) ⟨0, 0, 0, 0, 0, 0⟩ rfl rfl (Jn52.out.at_ (List.mem_cons_self ..)) ?_
          intro wn53 hstn53
          have Jn53 : Hid (EDS B (.pointer a) root had room w o wn53 o zs why [(g9, boxC ⟨(celAt zs left).l, (celAt zs left).r, (celAt zs left).k, (celAt zs left).v, (celAt zs left).s, (celAt zs left).h⟩), (g10, boxC ⟨0, 0, 0, 0, 0, 0⟩)]) := Lib.hid (Jn52.out.store hstn53)
          clear hstn53
          refine hK.out _ _ (Jn53.out.scells) (fun hHeld62 => ?_)
          clear hK K
          try simp only [Act.put, List.getElem_toArray, List.getElem_cons_zero, List.getElem_cons_succ]
          refine wpAnyH_ready (rs := [15]) (by kernel_rfl) (by simp) ?_
          refine AllReadyH.cons rfl (fun K hK => ?_) AllReadyH.nil
          have JHn54 := Lib.hid Jn53.out.swap
          rw [if_pos (by rfl)]
          refine wp_store_cel (.tmp 10) (.tmp 22) rfl g10 (⟨(celAt zs right).l, (celAt zs right).r, (celAt zs right).k, (celAt zs right).v, (celAt zs right).s, (celAt zs right).h⟩) ⟨0, 0, 0, 0, 0, 0⟩ rfl rfl (JHn54.out.at_ (List.mem_cons_self ..)) ?_
          intro wn54 hstn54
          have Jn54 : Hid (EDS B (.pointer a) root had room w o wn54 o zs why [(g10, boxC ⟨(celAt zs right).l, (celAt zs right).r, (celAt zs right).k, (celAt zs right).v, (celAt zs right).s, (celAt zs right).h⟩), (g9, boxC ⟨(celAt zs left).l, (celAt zs left).r, (celAt zs left).k, (celAt zs left).v, (celAt zs left).s, (celAt zs left).h⟩)]) := Lib.hid (JHn54.out.store hstn54)
          clear hstn54
          refine hK.out _ _ (Jn54.out.scells) (fun hHeld63 => ?_)
          clear hK K
          try simp only [Act.put, List.getElem_toArray, List.getElem_cons_zero, List.getElem_cons_succ]
          refine wpAnyH_done (by kernel_rfl) ?_ _
          go_wp2_with fail
          go_meet
          case rel => exact ⟨g9, g10, rfl, rfl, Lib.hid (Jn54.out.swap)⟩
        exact AllReadyH.nil
      refine AllReadyH.cons rfl (fun K hK => ?blvx64) ?clvx64
      case blvx64 =>
        rw [if_pos (by rfl)]
        refine wp_alloc_cel rfl ?_
        intro g9 wn55 hgn55 hwn55
        have Jn55 : Hid (EDS B (.pointer a) root had room w o wn55 o zs why [(g9, boxC ⟨0, 0, 0, 0, 0, 0⟩), (g10, boxC ⟨0, 0, 0, 0, 0, 0⟩)]) := Lib.hid (by rw [hgn55, hwn55]; exact Jn45.out.alloc (boxC Cel.zero))
        clear hgn55 hwn55
        refine hK.out _ _ (Jn55.out.scells) (fun hHeld64 => ?_)
        clear hK K
        try simp only [Act.put, List.getElem_toArray, List.getElem_cons_zero, List.getElem_cons_succ, List.setIfInBounds_toArray, List.set_cons_zero, List.set_cons_succ]
        refine wpAnyH_ready (rs := [5]) (by kernel_rfl) (by simp) ?_
        refine AllReadyH.cons rfl (fun K hK => ?_) AllReadyH.nil
        go_simp
        refine (pscell root (left) Jn55.out.bi.2).mono ?_
        rintro e wn56 ⟨rfl, hbn56⟩
        have Jn56 := Lib.hid (Jn55.out.below hbn56)
        clear hbn56
        try go_wp2_with fail
        refine hK.out _ _ (Jn56.out.scells) (fun hHeld65 => ?_)
        clear hK K
        try simp only [Act.put, List.getElem_toArray, List.getElem_cons_zero, List.getElem_cons_succ, List.setIfInBounds_toArray, List.set_cons_zero, List.set_cons_succ]
        refine wpAnyH_ready (rs := [11]) (by kernel_rfl) (by simp) ?_
        refine AllReadyH.cons rfl (fun K hK => ?_) AllReadyH.nil
        go_simp
        refine (pscell root (right) Jn56.out.bi.2).mono ?_
        rintro e wn57 ⟨rfl, hbn57⟩
        have Jn57 := Lib.hid (Jn56.out.below hbn57)
        clear hbn57
        try go_wp2_with fail
        refine hK.out _ _ (Jn57.out.scells) (fun hHeld66 => ?_)
        clear hK K
        try simp only [Act.put, List.getElem_toArray, List.getElem_cons_zero, List.getElem_cons_succ, List.setIfInBounds_toArray, List.set_cons_zero, List.set_cons_succ]
        refine wpAnyH_ready (rs := [14]) (by kernel_rfl) (by simp) ?_
        refine AllReadyH.cons rfl (fun K hK => ?_) AllReadyH.nil
        rw [if_pos (by rfl)]
        refine wp_store_cel (.tmp 9) (.tmp 16) rfl g9 (⟨(celAt zs left).l, (celAt zs left).r, (celAt zs left).k, (celAt zs left).v, (celAt zs left).s, (celAt zs left).h⟩) ⟨0, 0, 0, 0, 0, 0⟩ rfl rfl (Jn57.out.at_ (List.mem_cons_self ..)) ?_
        intro wn58 hstn58
        have Jn58 : Hid (EDS B (.pointer a) root had room w o wn58 o zs why [(g9, boxC ⟨(celAt zs left).l, (celAt zs left).r, (celAt zs left).k, (celAt zs left).v, (celAt zs left).s, (celAt zs left).h⟩), (g10, boxC ⟨0, 0, 0, 0, 0, 0⟩)]) := Lib.hid (Jn57.out.store hstn58)
        clear hstn58
        refine hK.out _ _ (Jn58.out.scells) (fun hHeld67 => ?_)
        clear hK K
        try simp only [Act.put, List.getElem_toArray, List.getElem_cons_zero, List.getElem_cons_succ]
        refine wpAnyH_ready (rs := [15]) (by kernel_rfl) (by simp) ?_
        refine AllReadyH.cons rfl (fun K hK => ?_) AllReadyH.nil
        have JHn59 := Lib.hid Jn58.out.swap
        rw [if_pos (by rfl)]
        refine wp_store_cel (.tmp 10) (.tmp 22) rfl g10 (⟨(celAt zs right).l, (celAt zs right).r, (celAt zs right).k, (celAt zs right).v, (celAt zs right).s, (celAt zs right).h⟩) ⟨0, 0, 0, 0, 0, 0⟩ rfl rfl (JHn59.out.at_ (List.mem_cons_self ..)) ?_
        intro wn59 hstn59
        have Jn59 : Hid (EDS B (.pointer a) root had room w o wn59 o zs why [(g10, boxC ⟨(celAt zs right).l, (celAt zs right).r, (celAt zs right).k, (celAt zs right).v, (celAt zs right).s, (celAt zs right).h⟩), (g9, boxC ⟨(celAt zs left).l, (celAt zs left).r, (celAt zs left).k, (celAt zs left).v, (celAt zs left).s, (celAt zs left).h⟩)]) := Lib.hid (JHn59.out.store hstn59)
        clear hstn59
        refine hK.out _ _ (Jn59.out.scells) (fun hHeld68 => ?_)
        clear hK K
        try simp only [Act.put, List.getElem_toArray, List.getElem_cons_zero, List.getElem_cons_succ]
        refine wpAnyH_done (by kernel_rfl) ?_ _
        go_wp2_with fail
        go_meet
        case rel => exact ⟨g9, g10, rfl, rfl, Lib.hid (Jn59.out.swap)⟩
      exact AllReadyH.nil
    exact AllReadyH.nil
  case rest =>
  obtain ⟨g9, g10, rfl, rfl, J⟩ := hcut
  obtain ⟨a0, a1, a2, a3, a4, a5⟩ := J.out.box (List.mem_cons_self ..)
  obtain ⟨b0, b1, b2, b3, b4, b5⟩ := J.out.box (List.mem_cons_of_mem _ (List.mem_cons_self ..))
  by_cases h1 : (celAt zs right).h + 1 < (celAt zs left).h
  · have e9 := HQ.out
    rw [if_pos h1] at e9
    subst e9
    clear HQ
    go_wp2_with (go_at_call 49; (refine (HTR.out _ _ J.out.bi).mono ?_; intro e wz hs; obtain ⟨rfl, oz, JZ⟩ := J.out.call hs; clear hs))
    go_ret
    exact JZ.out.done _
  · have e9 := HQ.out
    rw [if_neg h1] at e9
    clear HQ
    have HQ := Lib.hid e9
    clear e9
    by_cases h2 : (celAt zs left).h + 1 < (celAt zs right).h
    · have e9 := HQ.out
      rw [if_pos h2] at e9
      subst e9
      clear HQ
      go_wp2_with (go_at_call 50; (refine (HTL.out _ _ J.out.bi).mono ?_; intro e wz hs; obtain ⟨rfl, oz, JZ⟩ := J.out.call hs; clear hs))
      go_ret
      exact JZ.out.done _
    · have e9 := HQ.out
      rw [if_neg h2] at e9
      subst e9
      clear HQ
      go_wp2_with (go_at_call 35; (refine (HPT.out _ _ J.out.bi).mono ?_; intro e wz hs; obtain ⟨rfl, oz, JZ⟩ := J.out.call hs; clear hs))
      go_ret
      exact JZ.out.done _
end Go.Proofs.Ytbgepeokadmemaa.F
