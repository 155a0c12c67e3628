/-
  Contract of the editor's put. Not a statement of the seat.
-/
import Derived.Test.YtbgepeokadmemaaHead3
import Derived.Deep.Cut
import Derived.Deep.CutRange
import Derived.Deep.DeepCutAuto
import Derived.Deep.RegionHeld3
namespace Go.Proofs.Ytbgepeokadmemaa.F
open Go.ChangeShapes Go.WideShapes Go.ChangeAt Go.RowKit Base
theorem wrap_eq (x : Int) : IntKind.i64.wrap x = wrap64 x := by rw [IntKind.wrap_i64, wrap64]
set_option maxHeartbeats 8000000 in
set_option maxRecDepth 100000 in
theorem eput {w : World} {B : Nat} {pv : Value} {o : Option Nat} {root had : Int} {room : Nat} {zs : List Cel} {why : Int} (left val right : Int) (h : EDI w B pv o root had room zs why) (hc : fitC ⟨left, right, 0, val, 0, 0⟩ zs.length) (hok : Cel.ok ⟨left, right, 0, val, 0, 0⟩) :
    Calls Try.prog 35 #[.pointer (some ⟨B, 0, none⟩), .int .i64 left, .int .i64 val, .int .i64 right] w (EDP B pv o root had room (putM room zs why ⟨left, right, 0, val, 0, 0⟩).1 (putM room zs why ⟨left, right, 0, val, 0, 0⟩).2.1 (.int .i64 (putM room zs why ⟨left, right, 0, val, 0, 0⟩).2.2) w) := by
  have H0 := Lib.hid h
  obtain ⟨a, rfl⟩ : ∃ a, pv = .pointer a := by
    rcases h.2 with ⟨rfl, _⟩ | ⟨b, rfl, _⟩
    · exact ⟨_, rfl⟩
    · exact ⟨_, rfl⟩
  have hBl := (ecells h.1).1
  have HI : Hid (∀ X, Below w.heap.size w X → EDI X B (.pointer a) o root had room zs why) := Lib.hid fun X hX => h.below hX
  have HS : Hid (∀ X, Below w.heap.size w X → (X.cell? ⟨B, 0, none⟩ = some (.pointer a) ∧ X.cell? ⟨B, 1, none⟩ = some (.int .i64 root))) := Lib.hid fun X hX => (ecells (HI.out X hX).1).2.1
  have HC : Hid (∀ X i, Below w.heap.size w X → Calls Try.prog 41 #[.agg #[.pointer a, .int .i64 root], .int .i64 i] X (CelIs (celAt zs i) X)) := Lib.hid fun X i hX => pscell root i (HI.out X hX).2
  have HE : Hid (∃ zs2 why2 i y, putM room zs why ⟨left, right, 0, val, 0, 0⟩ = (zs2, why2, i) ∧ putA room zs (sized zs ⟨left, right, 0, val, 0, 0⟩) = (zs2, i, y) ∧ ((y = 0 ∧ why2 = why) ∨ (y = 2 ∧ why2 = 2))) := Lib.hid (by
    have hf : fitC (sized zs ⟨left, right, 0, val, 0, 0⟩) zs.length := hc
    unfold putM putA
    rw [if_pos hf]
    by_cases hr : zs.length < room
    · rw [if_pos hr, if_pos hr]; exact ⟨_, _, _, _, rfl, rfl, .inl ⟨rfl, rfl⟩⟩
    · rw [if_neg hr, if_neg hr]; exact ⟨_, _, _, _, rfl, rfl, .inr ⟨rfl, rfl⟩⟩)
  obtain ⟨zs2, why2, i, y, e1, e2, hy⟩ := HE.out
  have HY := Lib.hid hy
  rw [e1]
  have HP : Hid (∀ (X : World), Below w.heap.size w X → Calls Try.prog 46 #[.pointer a, .agg #[.int .i64 left, .int .i64 right, .int .i64 0, .int .i64 val, .int .i64 (IntKind.i64.wrap (IntKind.i64.wrap ((celAt zs left).s + 1) + (celAt zs right).s)), .int .i64 (IntKind.i64.wrap (1 + if (celAt zs left).h < (celAt zs right).h then (celAt zs right).h else (celAt zs left).h))]] X (ArStep (.pointer a) o room zs2 (.tuple #[.int .i64 i, .int .i64 y]) X)) := Lib.hid fun X hX => by
    have h1 := arput_v (sized zs ⟨left, right, 0, val, 0, 0⟩) X (HI.out X hX).2 (sized_ok hok)
    rw [e2] at h1
    simp only [wrap_eq]
    exact h1
  clear HE e1 e2 hy hc hok h
  go_enter Try.func35, Try.ntmps35
  go_upto_region 1 with fail
  go_cut [9, 10] (fun s9 s10 wx => ∃ g9 g10, s9 = .pointer (some ⟨g9, 0, none⟩) ∧ s10 = .pointer (some ⟨g10, 0, none⟩) ∧ Hid (RI w wx [(g9, boxC (celAt zs left)), (g10, boxC (celAt zs right))]))
  case first =>
    have J0 : Hid (RI w w.drew []) := Lib.hid (RI.start _)
    refine wp_region_held_drew (S := (fun w' => w'.cell? ⟨B, 0, none⟩ = some (.pointer a) ∧ w'.cell? ⟨B, 1, none⟩ = some (.int .i64 root))) (by kernel_rfl) (HS.out _ J0.out.1) (fun hHeld0 => ?_)
    refine wpAnyH_take (i := 0) (v := ?_) rfl (by kernel_rfl) (by kernel_rfl) (by kernel_rfl) (fun _ _ _ h => h) (Or.inl ⟨by rfl, ?yp1⟩) (by assumption) ?qp1
    case yp1 => (intro wz hSw; (try dsimp only at hSw); go_simp <;> with_reducible rfl)
    try simp only [Act.put, List.getElem_toArray, List.getElem_cons_zero, List.setIfInBounds_toArray, List.set_cons_zero, List.set_cons_succ]
    refine wpAnyH_take (i := 1) (v := ?_) rfl (by kernel_rfl) (by kernel_rfl) (by kernel_rfl) (fun _ _ _ h => h) (Or.inl ⟨by rfl, ?yp2⟩) (by assumption) ?qp2
    case yp2 => (intro wz hSw; (try dsimp only at hSw); go_simp <;> with_reducible rfl)
    try simp only [Act.put, List.getElem_toArray, List.getElem_cons_zero, List.getElem_cons_succ, List.setIfInBounds_toArray, List.set_cons_zero, List.set_cons_succ]
    refine wpAnyH_take (i := 2) (v := ?_) rfl (by kernel_rfl) (by kernel_rfl) (by kernel_rfl) (fun _ _ _ h => h) (Or.inl ⟨by rfl, ?yp3⟩) (by assumption) ?qp3
    case yp3 => (intro wz hSw; (try dsimp only at hSw); go_simp <;> with_reducible rfl)
    try simp only [Act.put, List.getElem_toArray, List.getElem_cons_zero, List.getElem_cons_succ, List.setIfInBounds_toArray, List.set_cons_zero, List.set_cons_succ]
    refine wpAnyH_take (i := 3) (v := ?_) rfl (by kernel_rfl) (by kernel_rfl) (by kernel_rfl) (fun _ _ _ h => h) (Or.inl ⟨by rfl, ?yp4⟩) (by assumption) ?qp4
    case yp4 => (intro wz hSw; (try dsimp only at hSw); go_simp <;> with_reducible rfl)
    try simp only [Act.put, List.getElem_toArray, List.getElem_cons_zero, List.getElem_cons_succ, List.setIfInBounds_toArray, List.set_cons_zero, List.set_cons_succ]
    refine wpAnyH_take (i := 4) (v := ?_) rfl (by kernel_rfl) (by kernel_rfl) (by kernel_rfl) (fun _ _ _ h => h) (Or.inl ⟨by rfl, ?yp5⟩) (by assumption) ?qp5
    case yp5 => (intro wz hSw; (try dsimp only at hSw); go_simp <;> with_reducible rfl)
    try simp only [Act.put, List.getElem_toArray, List.getElem_cons_zero, List.getElem_cons_succ, List.setIfInBounds_toArray, List.set_cons_zero, List.set_cons_succ]
    refine wpAnyH_take (i := 6) (v := ?_) rfl (by kernel_rfl) (by kernel_rfl) (by kernel_rfl) (fun _ _ _ h => h) (Or.inl ⟨by rfl, ?yp6⟩) (by assumption) ?qp6
    case yp6 => (intro wz hSw; (try dsimp only at hSw); go_simp <;> with_reducible rfl)
    try simp only [Act.put, List.getElem_toArray, List.getElem_cons_zero, List.getElem_cons_succ, List.setIfInBounds_toArray, List.set_cons_zero, List.set_cons_succ]
    refine wpAnyH_take (i := 7) (v := ?_) rfl (by kernel_rfl) (by kernel_rfl) (by kernel_rfl) (fun _ _ _ h => h) (Or.inl ⟨by rfl, ?yp7⟩) (by assumption) ?qp7
    case yp7 => (intro wz hSw; (try dsimp only at hSw); go_simp <;> with_reducible rfl)
    try simp only [Act.put, List.getElem_toArray, List.getElem_cons_zero, List.getElem_cons_succ, List.setIfInBounds_toArray, List.set_cons_zero, List.set_cons_succ]
    refine wpAnyH_take (i := 8) (v := ?_) rfl (by kernel_rfl) (by kernel_rfl) (by kernel_rfl) (fun _ _ _ h => h) (Or.inl ⟨by rfl, ?yp8⟩) (by assumption) ?qp8
    case yp8 => (intro wz hSw; (try dsimp only at hSw); go_simp <;> with_reducible rfl)
    try simp only [Act.put, List.getElem_toArray, List.getElem_cons_zero, List.getElem_cons_succ, List.setIfInBounds_toArray, List.set_cons_zero, List.set_cons_succ]
    refine wpAnyH_take (i := 9) (v := ?_) rfl (by kernel_rfl) (by kernel_rfl) (by kernel_rfl) (fun _ _ _ h => h) (Or.inl ⟨by rfl, ?yp9⟩) (by assumption) ?qp9
    case yp9 => (intro wz hSw; (try dsimp only at hSw); go_simp <;> with_reducible rfl)
    try simp only [Act.put, List.getElem_toArray, List.getElem_cons_zero, List.getElem_cons_succ, List.setIfInBounds_toArray, List.set_cons_zero, List.set_cons_succ]
    refine wpAnyH_take (i := 10) (v := ?_) rfl (by kernel_rfl) (by kernel_rfl) (by kernel_rfl) (fun _ _ _ h => h) (Or.inl ⟨by rfl, ?yp10⟩) (by assumption) ?qp10
    case yp10 => (intro wz hSw; (try dsimp only at hSw); go_simp <;> with_reducible rfl)
    try simp only [Act.put, List.getElem_toArray, List.getElem_cons_zero, List.getElem_cons_succ, List.setIfInBounds_toArray, List.set_cons_zero, List.set_cons_succ]
    refine wpAnyH_ready (rs := [5, 12, 13]) (by kernel_rfl) (by simp) ?_
    refine AllReadyH.cons rfl (fun K hK => ?bp11) ?cp11
    case bp11 =>
      go_simp
      refine (HC.out _ _ J0.out.1).mono ?_
      rintro e wn11 ⟨rfl, hb11⟩
      have J11 := Lib.hid (J0.out.call hb11)
      clear hb11
      try go_wp2_with fail
      refine hK.out _ _ (HS.out _ J11.out.1) (fun hHeld11 => ?_)
      clear hK K
      try simp only [Act.put, List.getElem_toArray, List.getElem_cons_zero, List.getElem_cons_succ, List.setIfInBounds_toArray, List.set_cons_zero, List.set_cons_succ]
      refine wpAnyH_ready (rs := [11, 12, 13]) (by kernel_rfl) (by simp) ?_
      refine AllReadyH.cons rfl (fun K hK => ?bp12) ?cp12
      case bp12 =>
        go_simp
        refine (HC.out _ _ J11.out.1).mono ?_
        rintro e wn12 ⟨rfl, hb12⟩
        have J12 := Lib.hid (J11.out.call hb12)
        clear hb12
        try go_wp2_with fail
        refine hK.out _ _ (HS.out _ J12.out.1) (fun hHeld12 => ?_)
        clear hK K
        try simp only [Act.put, List.getElem_toArray, List.getElem_cons_zero, List.getElem_cons_succ, List.setIfInBounds_toArray, List.set_cons_zero, List.set_cons_succ]
        refine wpAnyH_ready (rs := [12, 13]) (by kernel_rfl) (by simp) ?_
        refine AllReadyH.cons rfl (fun K hK => ?bp13) ?cp13
        case bp13 =>
          rw [if_pos (by rfl)]
          refine wp_alloc_cel rfl ?_
          intro g9 wn13 hg13 hw13
          have J13 : Hid (RI w wn13 ((g9, boxC Cel.zero) :: [])) := Lib.hid (by rw [hg13, hw13]; exact J12.out.alloc _)
          clear hg13 hw13
          refine hK.out _ _ (HS.out _ J13.out.1) (fun hHeld13 => ?_)
          clear hK K
          try simp only [Act.put, List.getElem_toArray, List.getElem_cons_zero, List.getElem_cons_succ, List.setIfInBounds_toArray, List.set_cons_zero, List.set_cons_succ]
          refine wpAnyH_ready (rs := [13]) (by kernel_rfl) (by simp) ?_
          refine AllReadyH.cons rfl (fun K hK => ?_) AllReadyH.nil
          rw [if_pos (by rfl)]
          refine wp_alloc_cel rfl ?_
          intro g10 wn14 hg14 hw14
          have J14 : Hid (RI w wn14 ((g10, boxC Cel.zero) :: [(g9, boxC Cel.zero)])) := Lib.hid (by rw [hg14, hw14]; exact J13.out.alloc _)
          clear hg14 hw14
          refine hK.out _ _ (HS.out _ J14.out.1) (fun hHeld14 => ?_)
          clear hK K
          try simp only [Act.put, List.getElem_toArray, List.getElem_cons_zero, List.getElem_cons_succ, List.setIfInBounds_toArray, List.set_cons_zero, List.set_cons_succ]
          refine wpAnyH_ready (rs := [14]) (by kernel_rfl) (by simp) ?_
          refine AllReadyH.cons rfl (fun K hK => ?_) AllReadyH.nil
          have JS15 := Lib.hid J14.out.swap
          rw [if_pos (by rfl)]
          refine wp_store_cel (.tmp 9) (.tmp 18) rfl g9 (celAt zs left) Cel.zero rfl rfl (JS15.out.at_ (List.mem_cons_self ..)).1 ?_
          intro wn15 hst15
          have J15 := Lib.hid (JS15.out.store hst15)
          clear hst15
          refine hK.out _ _ (HS.out _ J15.out.1) (fun hHeld15 => ?_)
          clear hK K
          try simp only [Act.put, List.getElem_toArray, List.getElem_cons_zero, List.getElem_cons_succ]
          refine wpAnyH_ready (rs := [15]) (by kernel_rfl) (by simp) ?_
          refine AllReadyH.cons rfl (fun K hK => ?_) AllReadyH.nil
          have JS16 := Lib.hid J15.out.swap
          rw [if_pos (by rfl)]
          refine wp_store_cel (.tmp 10) (.tmp 24) rfl g10 (celAt zs right) Cel.zero rfl rfl (JS16.out.at_ (List.mem_cons_self ..)).1 ?_
          intro wn16 hst16
          have J16 := Lib.hid (JS16.out.store hst16)
          clear hst16
          refine hK.out _ _ (HS.out _ J16.out.1) (fun hHeld16 => ?_)
          clear hK K
          try simp only [Act.put, List.getElem_toArray, List.getElem_cons_zero, List.getElem_cons_succ]
          refine wpAnyH_done (by kernel_rfl) ?_ _
          go_wp2_with fail
          go_meet
          case rel => exact ⟨g9, g10, rfl, rfl, Lib.hid (J16.out.swap)⟩
        refine AllReadyH.cons rfl (fun K hK => ?bp17) ?cp17
        case bp17 =>
          rw [if_pos (by rfl)]
          refine wp_alloc_cel rfl ?_
          intro g10 wn17 hg17 hw17
          have J17 : Hid (RI w wn17 ((g10, boxC Cel.zero) :: [])) := Lib.hid (by rw [hg17, hw17]; exact J12.out.alloc _)
          clear hg17 hw17
          refine hK.out _ _ (HS.out _ J17.out.1) (fun hHeld17 => ?_)
          clear hK K
          try simp only [Act.put, List.getElem_toArray, List.getElem_cons_zero, List.getElem_cons_succ, List.setIfInBounds_toArray, List.set_cons_zero, List.set_cons_succ]
          refine wpAnyH_ready (rs := [12]) (by kernel_rfl) (by simp) ?_
          refine AllReadyH.cons rfl (fun K hK => ?_) AllReadyH.nil
          rw [if_pos (by rfl)]
          refine wp_alloc_cel rfl ?_
          intro g9 wn18 hg18 hw18
          have J18 : Hid (RI w wn18 ((g9, boxC Cel.zero) :: [(g10, boxC Cel.zero)])) := Lib.hid (by rw [hg18, hw18]; exact J17.out.alloc _)
          clear hg18 hw18
          refine hK.out _ _ (HS.out _ J18.out.1) (fun hHeld18 => ?_)
          clear hK K
          try simp only [Act.put, List.getElem_toArray, List.getElem_cons_zero, List.getElem_cons_succ, List.setIfInBounds_toArray, List.set_cons_zero, List.set_cons_succ]
          refine wpAnyH_ready (rs := [14]) (by kernel_rfl) (by simp) ?_
          refine AllReadyH.cons rfl (fun K hK => ?_) AllReadyH.nil
          rw [if_pos (by rfl)]
          refine wp_store_cel (.tmp 9) (.tmp 18) rfl g9 (celAt zs left) Cel.zero rfl rfl (J18.out.at_ (List.mem_cons_self ..)).1 ?_
          intro wn19 hst19
          have J19 := Lib.hid (J18.out.store hst19)
          clear hst19
          refine hK.out _ _ (HS.out _ J19.out.1) (fun hHeld19 => ?_)
          clear hK K
          try simp only [Act.put, List.getElem_toArray, List.getElem_cons_zero, List.getElem_cons_succ]
          refine wpAnyH_ready (rs := [15]) (by kernel_rfl) (by simp) ?_
          refine AllReadyH.cons rfl (fun K hK => ?_) AllReadyH.nil
          have JS20 := Lib.hid J19.out.swap
          rw [if_pos (by rfl)]
          refine wp_store_cel (.tmp 10) (.tmp 24) rfl g10 (celAt zs right) Cel.zero rfl rfl (JS20.out.at_ (List.mem_cons_self ..)).1 ?_
          intro wn20 hst20
          have J20 := Lib.hid (JS20.out.store hst20)
          clear hst20
          refine hK.out _ _ (HS.out _ J20.out.1) (fun hHeld20 => ?_)
          clear hK K
          try simp only [Act.put, List.getElem_toArray, List.getElem_cons_zero, List.getElem_cons_succ]
          refine wpAnyH_done (by kernel_rfl) ?_ _
          go_wp2_with fail
          go_meet
          case rel => exact ⟨g9, g10, rfl, rfl, Lib.hid (J20.out.swap)⟩
        exact AllReadyH.nil
      refine AllReadyH.cons rfl (fun K hK => ?bp21) ?cp21
      case bp21 =>
        rw [if_pos (by rfl)]
        refine wp_alloc_cel rfl ?_
        intro g9 wn21 hg21 hw21
        have J21 : Hid (RI w wn21 ((g9, boxC Cel.zero) :: [])) := Lib.hid (by rw [hg21, hw21]; exact J11.out.alloc _)
        clear hg21 hw21
        refine hK.out _ _ (HS.out _ J21.out.1) (fun hHeld21 => ?_)
        clear hK K
        try simp only [Act.put, List.getElem_toArray, List.getElem_cons_zero, List.getElem_cons_succ, List.setIfInBounds_toArray, List.set_cons_zero, List.set_cons_succ]
        refine wpAnyH_ready (rs := [11, 13]) (by kernel_rfl) (by simp) ?_
        refine AllReadyH.cons rfl (fun K hK => ?bp22) ?cp22
        case bp22 =>
          go_simp
          refine (HC.out _ _ J21.out.1).mono ?_
          rintro e wn22 ⟨rfl, hb22⟩
          have J22 := Lib.hid (J21.out.call hb22)
          clear hb22
          try go_wp2_with fail
          refine hK.out _ _ (HS.out _ J22.out.1) (fun hHeld22 => ?_)
          clear hK K
          try simp only [Act.put, List.getElem_toArray, List.getElem_cons_zero, List.getElem_cons_succ, List.setIfInBounds_toArray, List.set_cons_zero, List.set_cons_succ]
          refine wpAnyH_ready (rs := [13]) (by kernel_rfl) (by simp) ?_
          refine AllReadyH.cons rfl (fun K hK => ?_) AllReadyH.nil
          rw [if_pos (by rfl)]
          refine wp_alloc_cel rfl ?_
          intro g10 wn23 hg23 hw23
          have J23 : Hid (RI w wn23 ((g10, boxC Cel.zero) :: [(g9, boxC Cel.zero)])) := Lib.hid (by rw [hg23, hw23]; exact J22.out.alloc _)
          clear hg23 hw23
          refine hK.out _ _ (HS.out _ J23.out.1) (fun hHeld23 => ?_)
          clear hK K
          try simp only [Act.put, List.getElem_toArray, List.getElem_cons_zero, List.getElem_cons_succ, List.setIfInBounds_toArray, List.set_cons_zero, List.set_cons_succ]
          refine wpAnyH_ready (rs := [14]) (by kernel_rfl) (by simp) ?_
          refine AllReadyH.cons rfl (fun K hK => ?_) AllReadyH.nil
          have JS24 := Lib.hid J23.out.swap
          rw [if_pos (by rfl)]
          refine wp_store_cel (.tmp 9) (.tmp 18) rfl g9 (celAt zs left) Cel.zero rfl rfl (JS24.out.at_ (List.mem_cons_self ..)).1 ?_
          intro wn24 hst24
          have J24 := Lib.hid (JS24.out.store hst24)
          clear hst24
          refine hK.out _ _ (HS.out _ J24.out.1) (fun hHeld24 => ?_)
          clear hK K
          try simp only [Act.put, List.getElem_toArray, List.getElem_cons_zero, List.getElem_cons_succ]
          refine wpAnyH_ready (rs := [15]) (by kernel_rfl) (by simp) ?_
          refine AllReadyH.cons rfl (fun K hK => ?_) AllReadyH.nil
          have JS25 := Lib.hid J24.out.swap
          rw [if_pos (by rfl)]
          refine wp_store_cel (.tmp 10) (.tmp 24) rfl g10 (celAt zs right) Cel.zero rfl rfl (JS25.out.at_ (List.mem_cons_self ..)).1 ?_
          intro wn25 hst25
          have J25 := Lib.hid (JS25.out.store hst25)
          clear hst25
          refine hK.out _ _ (HS.out _ J25.out.1) (fun hHeld25 => ?_)
          clear hK K
          try simp only [Act.put, List.getElem_toArray, List.getElem_cons_zero, List.getElem_cons_succ]
          refine wpAnyH_done (by kernel_rfl) ?_ _
          go_wp2_with fail
          go_meet
          case rel => exact ⟨g9, g10, rfl, rfl, Lib.hid (J25.out.swap)⟩
        refine AllReadyH.cons rfl (fun K hK => ?bp26) ?cp26
        case bp26 =>
          rw [if_pos (by rfl)]
          refine wp_alloc_cel rfl ?_
          intro g10 wn26 hg26 hw26
          have J26 : Hid (RI w wn26 ((g10, boxC Cel.zero) :: [(g9, boxC Cel.zero)])) := Lib.hid (by rw [hg26, hw26]; exact J21.out.alloc _)
          clear hg26 hw26
          refine hK.out _ _ (HS.out _ J26.out.1) (fun hHeld26 => ?_)
          clear hK K
          try simp only [Act.put, List.getElem_toArray, List.getElem_cons_zero, List.getElem_cons_succ, List.setIfInBounds_toArray, List.set_cons_zero, List.set_cons_succ]
          refine wpAnyH_ready (rs := [11]) (by kernel_rfl) (by simp) ?_
          refine AllReadyH.cons rfl (fun K hK => ?_) AllReadyH.nil
          go_simp
          refine (HC.out _ _ J26.out.1).mono ?_
          rintro e wn27 ⟨rfl, hb27⟩
          have J27 := Lib.hid (J26.out.call hb27)
          clear hb27
          try go_wp2_with fail
          refine hK.out _ _ (HS.out _ J27.out.1) (fun hHeld27 => ?_)
          clear hK K
          try simp only [Act.put, List.getElem_toArray, List.getElem_cons_zero, List.getElem_cons_succ, List.setIfInBounds_toArray, List.set_cons_zero, List.set_cons_succ]
          refine wpAnyH_ready (rs := [14]) (by kernel_rfl) (by simp) ?_
          refine AllReadyH.cons rfl (fun K hK => ?_) AllReadyH.nil
          have JS28 := Lib.hid J27.out.swap
          rw [if_pos (by rfl)]
          refine wp_store_cel (.tmp 9) (.tmp 18) rfl g9 (celAt zs left) Cel.zero rfl rfl (JS28.out.at_ (List.mem_cons_self ..)).1 ?_
          intro wn28 hst28
          have J28 := Lib.hid (JS28.out.store hst28)
          clear hst28
          refine hK.out _ _ (HS.out _ J28.out.1) (fun hHeld28 => ?_)
          clear hK K
          try simp only [Act.put, List.getElem_toArray, List.getElem_cons_zero, List.getElem_cons_succ]
          refine wpAnyH_ready (rs := [15]) (by kernel_rfl) (by simp) ?_
          refine AllReadyH.cons rfl (fun K hK => ?_) AllReadyH.nil
          have JS29 := Lib.hid J28.out.swap
          rw [if_pos (by rfl)]
          refine wp_store_cel (.tmp 10) (.tmp 24) rfl g10 (celAt zs right) Cel.zero rfl rfl (JS29.out.at_ (List.mem_cons_self ..)).1 ?_
          intro wn29 hst29
          have J29 := Lib.hid (JS29.out.store hst29)
          clear hst29
          refine hK.out _ _ (HS.out _ J29.out.1) (fun hHeld29 => ?_)
          clear hK K
          try simp only [Act.put, List.getElem_toArray, List.getElem_cons_zero, List.getElem_cons_succ]
          refine wpAnyH_done (by kernel_rfl) ?_ _
          go_wp2_with fail
          go_meet
          case rel => exact ⟨g9, g10, rfl, rfl, Lib.hid (J29.out.swap)⟩
        exact AllReadyH.nil
      refine AllReadyH.cons rfl (fun K hK => ?bp30) ?cp30
      case bp30 =>
        rw [if_pos (by rfl)]
        refine wp_alloc_cel rfl ?_
        intro g10 wn30 hg30 hw30
        have J30 : Hid (RI w wn30 ((g10, boxC Cel.zero) :: [])) := Lib.hid (by rw [hg30, hw30]; exact J11.out.alloc _)
        clear hg30 hw30
        refine hK.out _ _ (HS.out _ J30.out.1) (fun hHeld30 => ?_)
        clear hK K
        try simp only [Act.put, List.getElem_toArray, List.getElem_cons_zero, List.getElem_cons_succ, List.setIfInBounds_toArray, List.set_cons_zero, List.set_cons_succ]
        refine wpAnyH_ready (rs := [11, 12]) (by kernel_rfl) (by simp) ?_
        refine AllReadyH.cons rfl (fun K hK => ?bp31) ?cp31
        case bp31 =>
          go_simp
          refine (HC.out _ _ J30.out.1).mono ?_
          rintro e wn31 ⟨rfl, hb31⟩
          have J31 := Lib.hid (J30.out.call hb31)
          clear hb31
          try go_wp2_with fail
          refine hK.out _ _ (HS.out _ J31.out.1) (fun hHeld31 => ?_)
          clear hK K
          try simp only [Act.put, List.getElem_toArray, List.getElem_cons_zero, List.getElem_cons_succ, List.setIfInBounds_toArray, List.set_cons_zero, List.set_cons_succ]
          refine wpAnyH_ready (rs := [12]) (by kernel_rfl) (by simp) ?_
          refine AllReadyH.cons rfl (fun K hK => ?_) AllReadyH.nil
          rw [if_pos (by rfl)]
          refine wp_alloc_cel rfl ?_
          intro g9 wn32 hg32 hw32
          have J32 : Hid (RI w wn32 ((g9, boxC Cel.zero) :: [(g10, boxC Cel.zero)])) := Lib.hid (by rw [hg32, hw32]; exact J31.out.alloc _)
          clear hg32 hw32
          refine hK.out _ _ (HS.out _ J32.out.1) (fun hHeld32 => ?_)
          clear hK K
          try simp only [Act.put, List.getElem_toArray, List.getElem_cons_zero, List.getElem_cons_succ, List.setIfInBounds_toArray, List.set_cons_zero, List.set_cons_succ]
          refine wpAnyH_ready (rs := [14]) (by kernel_rfl) (by simp) ?_
          refine AllReadyH.cons rfl (fun K hK => ?_) AllReadyH.nil
          rw [if_pos (by rfl)]
          refine wp_store_cel (.tmp 9) (.tmp 18) rfl g9 (celAt zs left) Cel.zero rfl rfl (J32.out.at_ (List.mem_cons_self ..)).1 ?_
          intro wn33 hst33
          have J33 := Lib.hid (J32.out.store hst33)
          clear hst33
          refine hK.out _ _ (HS.out _ J33.out.1) (fun hHeld33 => ?_)
          clear hK K
          try simp only [Act.put, List.getElem_toArray, List.getElem_cons_zero, List.getElem_cons_succ]
          refine wpAnyH_ready (rs := [15]) (by kernel_rfl) (by simp) ?_
          refine AllReadyH.cons rfl (fun K hK => ?_) AllReadyH.nil
          have JS34 := Lib.hid J33.out.swap
          rw [if_pos (by rfl)]
          refine wp_store_cel (.tmp 10) (.tmp 24) rfl g10 (celAt zs right) Cel.zero rfl rfl (JS34.out.at_ (List.mem_cons_self ..)).1 ?_
          intro wn34 hst34
          have J34 := Lib.hid (JS34.out.store hst34)
          clear hst34
          refine hK.out _ _ (HS.out _ J34.out.1) (fun hHeld34 => ?_)
          clear hK K
          try simp only [Act.put, List.getElem_toArray, List.getElem_cons_zero, List.getElem_cons_succ]
          refine wpAnyH_done (by kernel_rfl) ?_ _
          go_wp2_with fail
          go_meet
          case rel => exact ⟨g9, g10, rfl, rfl, Lib.hid (J34.out.swap)⟩
        refine AllReadyH.cons rfl (fun K hK => ?bp35) ?cp35
        case bp35 =>
          rw [if_pos (by rfl)]
          refine wp_alloc_cel rfl ?_
          intro g9 wn35 hg35 hw35
          have J35 : Hid (RI w wn35 ((g9, boxC Cel.zero) :: [(g10, boxC Cel.zero)])) := Lib.hid (by rw [hg35, hw35]; exact J30.out.alloc _)
          clear hg35 hw35
          refine hK.out _ _ (HS.out _ J35.out.1) (fun hHeld35 => ?_)
          clear hK K
          try simp only [Act.put, List.getElem_toArray, List.getElem_cons_zero, List.getElem_cons_succ, List.setIfInBounds_toArray, List.set_cons_zero, List.set_cons_succ]
          refine wpAnyH_ready (rs := [11]) (by kernel_rfl) (by simp) ?_
          refine AllReadyH.cons rfl (fun K hK => ?_) AllReadyH.nil
          go_simp
          refine (HC.out _ _ J35.out.1).mono ?_
          rintro e wn36 ⟨rfl, hb36⟩
          have J36 := Lib.hid (J35.out.call hb36)
          clear hb36
          try go_wp2_with fail
          refine hK.out _ _ (HS.out _ J36.out.1) (fun hHeld36 => ?_)
          clear hK K
          try simp only [Act.put, List.getElem_toArray, List.getElem_cons_zero, List.getElem_cons_succ, List.setIfInBounds_toArray, List.set_cons_zero, List.set_cons_succ]
          refine wpAnyH_ready (rs := [14]) (by kernel_rfl) (by simp) ?_
          refine AllReadyH.cons rfl (fun K hK => ?_) AllReadyH.nil
          rw [if_pos (by rfl)]
          refine wp_store_cel (.tmp 9) (.tmp 18) rfl g9 (celAt zs left) Cel.zero rfl rfl (J36.out.at_ (List.mem_cons_self ..)).1 ?_
          intro wn37 hst37
          have J37 := Lib.hid (J36.out.store hst37)
          clear hst37
          refine hK.out _ _ (HS.out _ J37.out.1) (fun hHeld37 => ?_)
          clear hK K
          try simp only [Act.put, List.getElem_toArray, List.getElem_cons_zero, List.getElem_cons_succ]
          refine wpAnyH_ready (rs := [15]) (by kernel_rfl) (by simp) ?_
          refine AllReadyH.cons rfl (fun K hK => ?_) AllReadyH.nil
          have JS38 := Lib.hid J37.out.swap
          rw [if_pos (by rfl)]
          refine wp_store_cel (.tmp 10) (.tmp 24) rfl g10 (celAt zs right) Cel.zero rfl rfl (JS38.out.at_ (List.mem_cons_self ..)).1 ?_
          intro wn38 hst38
          have J38 := Lib.hid (JS38.out.store hst38)
          clear hst38
          refine hK.out _ _ (HS.out _ J38.out.1) (fun hHeld38 => ?_)
          clear hK K
          try simp only [Act.put, List.getElem_toArray, List.getElem_cons_zero, List.getElem_cons_succ]
          refine wpAnyH_done (by kernel_rfl) ?_ _
          go_wp2_with fail
          go_meet
          case rel => exact ⟨g9, g10, rfl, rfl, Lib.hid (J38.out.swap)⟩
        exact AllReadyH.nil
      exact AllReadyH.nil
    refine AllReadyH.cons rfl (fun K hK => ?bp39) ?cp39
    case bp39 =>
      rw [if_pos (by rfl)]
      refine wp_alloc_cel rfl ?_
      intro g9 wn39 hg39 hw39
      have J39 : Hid (RI w wn39 ((g9, boxC Cel.zero) :: [])) := Lib.hid (by rw [hg39, hw39]; exact J0.out.alloc _)
      clear hg39 hw39
      refine hK.out _ _ (HS.out _ J39.out.1) (fun hHeld39 => ?_)
      clear hK K
      try simp only [Act.put, List.getElem_toArray, List.getElem_cons_zero, List.getElem_cons_succ, List.setIfInBounds_toArray, List.set_cons_zero, List.set_cons_succ]
      refine wpAnyH_ready (rs := [5, 13]) (by kernel_rfl) (by simp) ?_
      refine AllReadyH.cons rfl (fun K hK => ?bp40) ?cp40
      case bp40 =>
        go_simp
        refine (HC.out _ _ J39.out.1).mono ?_
        rintro e wn40 ⟨rfl, hb40⟩
        have J40 := Lib.hid (J39.out.call hb40)
        clear hb40
        try go_wp2_with fail
        refine hK.out _ _ (HS.out _ J40.out.1) (fun hHeld40 => ?_)
        clear hK K
        try simp only [Act.put, List.getElem_toArray, List.getElem_cons_zero, List.getElem_cons_succ, List.setIfInBounds_toArray, List.set_cons_zero, List.set_cons_succ]
        refine wpAnyH_ready (rs := [11, 13]) (by kernel_rfl) (by simp) ?_
        refine AllReadyH.cons rfl (fun K hK => ?bp41) ?cp41
        case bp41 =>
          go_simp
          refine (HC.out _ _ J40.out.1).mono ?_
          rintro e wn41 ⟨rfl, hb41⟩
          have J41 := Lib.hid (J40.out.call hb41)
          clear hb41
          try go_wp2_with fail
          refine hK.out _ _ (HS.out _ J41.out.1) (fun hHeld41 => ?_)
          clear hK K
          try simp only [Act.put, List.getElem_toArray, List.getElem_cons_zero, List.getElem_cons_succ, List.setIfInBounds_toArray, List.set_cons_zero, List.set_cons_succ]
          refine wpAnyH_ready (rs := [13]) (by kernel_rfl) (by simp) ?_
          refine AllReadyH.cons rfl (fun K hK => ?_) AllReadyH.nil
          rw [if_pos (by rfl)]
          refine wp_alloc_cel rfl ?_
          intro g10 wn42 hg42 hw42
          have J42 : Hid (RI w wn42 ((g10, boxC Cel.zero) :: [(g9, boxC Cel.zero)])) := Lib.hid (by rw [hg42, hw42]; exact J41.out.alloc _)
          clear hg42 hw42
          refine hK.out _ _ (HS.out _ J42.out.1) (fun hHeld42 => ?_)
          clear hK K
          try simp only [Act.put, List.getElem_toArray, List.getElem_cons_zero, List.getElem_cons_succ, List.setIfInBounds_toArray, List.set_cons_zero, List.set_cons_succ]
          refine wpAnyH_ready (rs := [14]) (by kernel_rfl) (by simp) ?_
          refine AllReadyH.cons rfl (fun K hK => ?_) AllReadyH.nil
          have JS43 := Lib.hid J42.out.swap
          rw [if_pos (by rfl)]
          refine wp_store_cel (.tmp 9) (.tmp 18) rfl g9 (celAt zs left) Cel.zero rfl rfl (JS43.out.at_ (List.mem_cons_self ..)).1 ?_
          intro wn43 hst43
          have J43 := Lib.hid (JS43.out.store hst43)
          clear hst43
          refine hK.out _ _ (HS.out _ J43.out.1) (fun hHeld43 => ?_)
          clear hK K
          try simp only [Act.put, List.getElem_toArray, List.getElem_cons_zero, List.getElem_cons_succ]
          refine wpAnyH_ready (rs := [15]) (by kernel_rfl) (by simp) ?_
          refine AllReadyH.cons rfl (fun K hK => ?_) AllReadyH.nil
          have JS44 := Lib.hid J43.out.swap
          rw [if_pos (by rfl)]
          refine wp_store_cel (.tmp 10) (.tmp 24) rfl g10 (celAt zs right) Cel.zero rfl rfl (JS44.out.at_ (List.mem_cons_self ..)).1 ?_
          intro wn44 hst44
          have J44 := Lib.hid (JS44.out.store hst44)
          clear hst44
          refine hK.out _ _ (HS.out _ J44.out.1) (fun hHeld44 => ?_)
          clear hK K
          try simp only [Act.put, List.getElem_toArray, List.getElem_cons_zero, List.getElem_cons_succ]
          refine wpAnyH_done (by kernel_rfl) ?_ _
          go_wp2_with fail
          go_meet
          case rel => exact ⟨g9, g10, rfl, rfl, Lib.hid (J44.out.swap)⟩
        refine AllReadyH.cons rfl (fun K hK => ?bp45) ?cp45
        case bp45 =>
          rw [if_pos (by rfl)]
          refine wp_alloc_cel rfl ?_
          intro g10 wn45 hg45 hw45
          have J45 : Hid (RI w wn45 ((g10, boxC Cel.zero) :: [(g9, boxC Cel.zero)])) := Lib.hid (by rw [hg45, hw45]; exact J40.out.alloc _)
          clear hg45 hw45
          refine hK.out _ _ (HS.out _ J45.out.1) (fun hHeld45 => ?_)
          clear hK K
          try simp only [Act.put, List.getElem_toArray, List.getElem_cons_zero, List.getElem_cons_succ, List.setIfInBounds_toArray, List.set_cons_zero, List.set_cons_succ]
          refine wpAnyH_ready (rs := [11]) (by kernel_rfl) (by simp) ?_
          refine AllReadyH.cons rfl (fun K hK => ?_) AllReadyH.nil
          go_simp
          refine (HC.out _ _ J45.out.1).mono ?_
          rintro e wn46 ⟨rfl, hb46⟩
          have J46 := Lib.hid (J45.out.call hb46)
          clear hb46
          try go_wp2_with fail
          refine hK.out _ _ (HS.out _ J46.out.1) (fun hHeld46 => ?_)
          clear hK K
          try simp only [Act.put, List.getElem_toArray, List.getElem_cons_zero, List.getElem_cons_succ, List.setIfInBounds_toArray, List.set_cons_zero, List.set_cons_succ]
          refine wpAnyH_ready (rs := [14]) (by kernel_rfl) (by simp) ?_
          refine AllReadyH.cons rfl (fun K hK => ?_) AllReadyH.nil
          have JS47 := Lib.hid J46.out.swap
          rw [if_pos (by rfl)]
          refine wp_store_cel (.tmp 9) (.tmp 18) rfl g9 (celAt zs left) Cel.zero rfl rfl (JS47.out.at_ (List.mem_cons_self ..)).1 ?_
          intro wn47 hst47
          have J47 := Lib.hid (JS47.out.store hst47)
          clear hst47
          refine hK.out _ _ (HS.out _ J47.out.1) (fun hHeld47 => ?_)
          clear hK K
          try simp only [Act.put, List.getElem_toArray, List.getElem_cons_zero, List.getElem_cons_succ]
          refine wpAnyH_ready (rs := [15]) (by kernel_rfl) (by simp) ?_
          refine AllReadyH.cons rfl (fun K hK => ?_) AllReadyH.nil
          have JS48 := Lib.hid J47.out.swap
          rw [if_pos (by rfl)]
          refine wp_store_cel (.tmp 10) (.tmp 24) rfl g10 (celAt zs right) Cel.zero rfl rfl (JS48.out.at_ (List.mem_cons_self ..)).1 ?_
          intro wn48 hst48
          have J48 := Lib.hid (JS48.out.store hst48)
          clear hst48
          refine hK.out _ _ (HS.out _ J48.out.1) (fun hHeld48 => ?_)
          clear hK K
          try simp only [Act.put, List.getElem_toArray, List.getElem_cons_zero, List.getElem_cons_succ]
          refine wpAnyH_done (by kernel_rfl) ?_ _
          go_wp2_with fail
          go_meet
          case rel => exact ⟨g9, g10, rfl, rfl, Lib.hid (J48.out.swap)⟩
        exact AllReadyH.nil
      refine AllReadyH.cons rfl (fun K hK => ?bp49) ?cp49
      case bp49 =>
        rw [if_pos (by rfl)]
        refine wp_alloc_cel rfl ?_
        intro g10 wn49 hg49 hw49
        have J49 : Hid (RI w wn49 ((g10, boxC Cel.zero) :: [(g9, boxC Cel.zero)])) := Lib.hid (by rw [hg49, hw49]; exact J39.out.alloc _)
        clear hg49 hw49
        refine hK.out _ _ (HS.out _ J49.out.1) (fun hHeld49 => ?_)
        clear hK K
        try simp only [Act.put, List.getElem_toArray, List.getElem_cons_zero, List.getElem_cons_succ, List.setIfInBounds_toArray, List.set_cons_zero, List.set_cons_succ]
        refine wpAnyH_ready (rs := [5]) (by kernel_rfl) (by simp) ?_
        refine AllReadyH.cons rfl (fun K hK => ?_) AllReadyH.nil
        go_simp
        refine (HC.out _ _ J49.out.1).mono ?_
        rintro e wn50 ⟨rfl, hb50⟩
        have J50 := Lib.hid (J49.out.call hb50)
        clear hb50
        try go_wp2_with fail
        refine hK.out _ _ (HS.out _ J50.out.1) (fun hHeld50 => ?_)
        clear hK K
        try simp only [Act.put, List.getElem_toArray, List.getElem_cons_zero, List.getElem_cons_succ, List.setIfInBounds_toArray, List.set_cons_zero, List.set_cons_succ]
        refine wpAnyH_ready (rs := [11]) (by kernel_rfl) (by simp) ?_
        refine AllReadyH.cons rfl (fun K hK => ?_) AllReadyH.nil
        go_simp
        refine (HC.out _ _ J50.out.1).mono ?_
        rintro e wn51 ⟨rfl, hb51⟩
        have J51 := Lib.hid (J50.out.call hb51)
        clear hb51
        try go_wp2_with fail
        refine hK.out _ _ (HS.out _ J51.out.1) (fun hHeld51 => ?_)
        clear hK K
        try simp only [Act.put, List.getElem_toArray, List.getElem_cons_zero, List.getElem_cons_succ, List.setIfInBounds_toArray, List.set_cons_zero, List.set_cons_succ]
        refine wpAnyH_ready (rs := [14]) (by kernel_rfl) (by simp) ?_
        refine AllReadyH.cons rfl (fun K hK => ?_) AllReadyH.nil
        have JS52 := Lib.hid J51.out.swap
        rw [if_pos (by rfl)]
        refine wp_store_cel (.tmp 9) (.tmp 18) rfl g9 (celAt zs left) Cel.zero rfl rfl (JS52.out.at_ (List.mem_cons_self ..)).1 ?_
        intro wn52 hst52
        have J52 := Lib.hid (JS52.out.store hst52)
        clear hst52
        refine hK.out _ _ (HS.out _ J52.out.1) (fun hHeld52 => ?_)
        clear hK K
        try simp only [Act.put, List.getElem_toArray, List.getElem_cons_zero, List.getElem_cons_succ]
        refine wpAnyH_ready (rs := [15]) (by kernel_rfl) (by simp) ?_
        refine AllReadyH.cons rfl (fun K hK => ?_) AllReadyH.nil
        have JS53 := Lib.hid J52.out.swap
        rw [if_pos (by rfl)]
        refine wp_store_cel (.tmp 10) (.tmp 24) rfl g10 (celAt zs right) Cel.zero rfl rfl (JS53.out.at_ (List.mem_cons_self ..)).1 ?_
        intro wn53 hst53
        have J53 := Lib.hid (JS53.out.store hst53)
        clear hst53
        refine hK.out _ _ (HS.out _ J53.out.1) (fun hHeld53 => ?_)
        clear hK K
        try simp only [Act.put, List.getElem_toArray, List.getElem_cons_zero, List.getElem_cons_succ]
        refine wpAnyH_done (by kernel_rfl) ?_ _
        go_wp2_with fail
        go_meet
        case rel => exact ⟨g9, g10, rfl, rfl, Lib.hid (J53.out.swap)⟩
      exact AllReadyH.nil
    refine AllReadyH.cons rfl (fun K hK => ?bp54) ?cp54
    case bp54 =>
      rw [if_pos (by rfl)]
      refine wp_alloc_cel rfl ?_
      intro g10 wn54 hg54 hw54
      have J54 : Hid (RI w wn54 ((g10, boxC Cel.zero) :: [])) := Lib.hid (by rw [hg54, hw54]; exact J0.out.alloc _)
      clear hg54 hw54
      refine hK.out _ _ (HS.out _ J54.out.1) (fun hHeld54 => ?_)
      clear hK K
      try simp only [Act.put, List.getElem_toArray, List.getElem_cons_zero, List.getElem_cons_succ, List.setIfInBounds_toArray, List.set_cons_zero, List.set_cons_succ]
      refine wpAnyH_ready (rs := [5, 12]) (by kernel_rfl) (by simp) ?_
      refine AllReadyH.cons rfl (fun K hK => ?bp55) ?cp55
      case bp55 =>
        go_simp
        refine (HC.out _ _ J54.out.1).mono ?_
        rintro e wn55 ⟨rfl, hb55⟩
        have J55 := Lib.hid (J54.out.call hb55)
        clear hb55
        try go_wp2_with fail
        refine hK.out _ _ (HS.out _ J55.out.1) (fun hHeld55 => ?_)
        clear hK K
        try simp only [Act.put, List.getElem_toArray, List.getElem_cons_zero, List.getElem_cons_succ, List.setIfInBounds_toArray, List.set_cons_zero, List.set_cons_succ]
        refine wpAnyH_ready (rs := [11, 12]) (by kernel_rfl) (by simp) ?_
        refine AllReadyH.cons rfl (fun K hK => ?bp56) ?cp56
        case bp56 =>
          go_simp
          refine (HC.out _ _ J55.out.1).mono ?_
          rintro e wn56 ⟨rfl, hb56⟩
          have J56 := Lib.hid (J55.out.call hb56)
          clear hb56
          try go_wp2_with fail
          refine hK.out _ _ (HS.out _ J56.out.1) (fun hHeld56 => ?_)
          clear hK K
          try simp only [Act.put, List.getElem_toArray, List.getElem_cons_zero, List.getElem_cons_succ, List.setIfInBounds_toArray, List.set_cons_zero, List.set_cons_succ]
          refine wpAnyH_ready (rs := [12]) (by kernel_rfl) (by simp) ?_
          refine AllReadyH.cons rfl (fun K hK => ?_) AllReadyH.nil
          rw [if_pos (by rfl)]
          refine wp_alloc_cel rfl ?_
          intro g9 wn57 hg57 hw57
          have J57 : Hid (RI w wn57 ((g9, boxC Cel.zero) :: [(g10, boxC Cel.zero)])) := Lib.hid (by rw [hg57, hw57]; exact J56.out.alloc _)
          clear hg57 hw57
          refine hK.out _ _ (HS.out _ J57.out.1) (fun hHeld57 => ?_)
          clear hK K
          try simp only [Act.put, List.getElem_toArray, List.getElem_cons_zero, List.getElem_cons_succ, List.setIfInBounds_toArray, List.set_cons_zero, List.set_cons_succ]
          refine wpAnyH_ready (rs := [14]) (by kernel_rfl) (by simp) ?_
          refine AllReadyH.cons rfl (fun K hK => ?_) AllReadyH.nil
          rw [if_pos (by rfl)]
          refine wp_store_cel (.tmp 9) (.tmp 18) rfl g9 (celAt zs left) Cel.zero rfl rfl (J57.out.at_ (List.mem_cons_self ..)).1 ?_
          intro wn58 hst58
          have J58 := Lib.hid (J57.out.store hst58)
          clear hst58
          refine hK.out _ _ (HS.out _ J58.out.1) (fun hHeld58 => ?_)
          clear hK K
          try simp only [Act.put, List.getElem_toArray, List.getElem_cons_zero, List.getElem_cons_succ]
          refine wpAnyH_ready (rs := [15]) (by kernel_rfl) (by simp) ?_
          refine AllReadyH.cons rfl (fun K hK => ?_) AllReadyH.nil
          have JS59 := Lib.hid J58.out.swap
          rw [if_pos (by rfl)]
          refine wp_store_cel (.tmp 10) (.tmp 24) rfl g10 (celAt zs right) Cel.zero rfl rfl (JS59.out.at_ (List.mem_cons_self ..)).1 ?_
          intro wn59 hst59
          have J59 := Lib.hid (JS59.out.store hst59)
          clear hst59
          refine hK.out _ _ (HS.out _ J59.out.1) (fun hHeld59 => ?_)
          clear hK K
          try simp only [Act.put, List.getElem_toArray, List.getElem_cons_zero, List.getElem_cons_succ]
          refine wpAnyH_done (by kernel_rfl) ?_ _
          go_wp2_with fail
          go_meet
          case rel => exact ⟨g9, g10, rfl, rfl, Lib.hid (J59.out.swap)⟩
        refine AllReadyH.cons rfl (fun K hK => ?bp60) ?cp60
        case bp60 =>
          rw [if_pos (by rfl)]
          refine wp_alloc_cel rfl ?_
          intro g9 wn60 hg60 hw60
          have J60 : Hid (RI w wn60 ((g9, boxC Cel.zero) :: [(g10, boxC Cel.zero)])) := Lib.hid (by rw [hg60, hw60]; exact J55.out.alloc _)
          clear hg60 hw60
          refine hK.out _ _ (HS.out _ J60.out.1) (fun hHeld60 => ?_)
          clear hK K
          try simp only [Act.put, List.getElem_toArray, List.getElem_cons_zero, List.getElem_cons_succ, List.setIfInBounds_toArray, List.set_cons_zero, List.set_cons_succ]
          refine wpAnyH_ready (rs := [11]) (by kernel_rfl) (by simp) ?_
          refine AllReadyH.cons rfl (fun K hK => ?_) AllReadyH.nil
          go_simp
          refine (HC.out _ _ J60.out.1).mono ?_
          rintro e wn61 ⟨rfl, hb61⟩
          have J61 := Lib.hid (J60.out.call hb61)
          clear hb61
          try go_wp2_with fail
          refine hK.out _ _ (HS.out _ J61.out.1) (fun hHeld61 => ?_)
          clear hK K
          try simp only [Act.put, List.getElem_toArray, List.getElem_cons_zero, List.getElem_cons_succ, List.setIfInBounds_toArray, List.set_cons_zero, List.set_cons_succ]
          refine wpAnyH_ready (rs := [14]) (by kernel_rfl) (by simp) ?_
          refine AllReadyH.cons rfl (fun K hK => ?_) AllReadyH.nil
          rw [if_pos (by rfl)]
          refine wp_store_cel (.tmp 9) (.tmp 18) rfl g9 (celAt zs left) Cel.zero rfl rfl (J61.out.at_ (List.mem_cons_self ..)).1 ?_
          intro wn62 hst62
          have J62 := Lib.hid (J61.out.store hst62)
          clear hst62
          refine hK.out _ _ (HS.out _ J62.out.1) (fun hHeld62 => ?_)
          clear hK K
          try simp only [Act.put, List.getElem_toArray, List.getElem_cons_zero, List.getElem_cons_succ]
          refine wpAnyH_ready (rs := [15]) (by kernel_rfl) (by simp) ?_
          refine AllReadyH.cons rfl (fun K hK => ?_) AllReadyH.nil
          have JS63 := Lib.hid J62.out.swap
          rw [if_pos (by rfl)]
          refine wp_store_cel (.tmp 10) (.tmp 24) rfl g10 (celAt zs right) Cel.zero rfl rfl (JS63.out.at_ (List.mem_cons_self ..)).1 ?_
          intro wn63 hst63
          have J63 := Lib.hid (JS63.out.store hst63)
          clear hst63
          refine hK.out _ _ (HS.out _ J63.out.1) (fun hHeld63 => ?_)
          clear hK K
          try simp only [Act.put, List.getElem_toArray, List.getElem_cons_zero, List.getElem_cons_succ]
          refine wpAnyH_done (by kernel_rfl) ?_ _
          go_wp2_with fail
          go_meet
          case rel => exact ⟨g9, g10, rfl, rfl, Lib.hid (J63.out.swap)⟩
        exact AllReadyH.nil
      refine AllReadyH.cons rfl (fun K hK => ?bp64) ?cp64
      case bp64 =>
        rw [if_pos (by rfl)]
        refine wp_alloc_cel rfl ?_
        intro g9 wn64 hg64 hw64
        have J64 : Hid (RI w wn64 ((g9, boxC Cel.zero) :: [(g10, boxC Cel.zero)])) := Lib.hid (by rw [hg64, hw64]; exact J54.out.alloc _)
        clear hg64 hw64
        refine hK.out _ _ (HS.out _ J64.out.1) (fun hHeld64 => ?_)
        clear hK K
        try simp only [Act.put, List.getElem_toArray, List.getElem_cons_zero, List.getElem_cons_succ, List.setIfInBounds_toArray, List.set_cons_zero, List.set_cons_succ]
        refine wpAnyH_ready (rs := [5]) (by kernel_rfl) (by simp) ?_
        refine AllReadyH.cons rfl (fun K hK => ?_) AllReadyH.nil
        go_simp
        refine (HC.out _ _ J64.out.1).mono ?_
        rintro e wn65 ⟨rfl, hb65⟩
        have J65 := Lib.hid (J64.out.call hb65)
        clear hb65
        try go_wp2_with fail
        refine hK.out _ _ (HS.out _ J65.out.1) (fun hHeld65 => ?_)
        clear hK K
        try simp only [Act.put, List.getElem_toArray, List.getElem_cons_zero, List.getElem_cons_succ, List.setIfInBounds_toArray, List.set_cons_zero, List.set_cons_succ]
        refine wpAnyH_ready (rs := [11]) (by kernel_rfl) (by simp) ?_
        refine AllReadyH.cons rfl (fun K hK => ?_) AllReadyH.nil
        go_simp
        refine (HC.out _ _ J65.out.1).mono ?_
        rintro e wn66 ⟨rfl, hb66⟩
        have J66 := Lib.hid (J65.out.call hb66)
        clear hb66
        try go_wp2_with fail
        refine hK.out _ _ (HS.out _ J66.out.1) (fun hHeld66 => ?_)
        clear hK K
        try simp only [Act.put, List.getElem_toArray, List.getElem_cons_zero, List.getElem_cons_succ, List.setIfInBounds_toArray, List.set_cons_zero, List.set_cons_succ]
        refine wpAnyH_ready (rs := [14]) (by kernel_rfl) (by simp) ?_
        refine AllReadyH.cons rfl (fun K hK => ?_) AllReadyH.nil
        rw [if_pos (by rfl)]
        refine wp_store_cel (.tmp 9) (.tmp 18) rfl g9 (celAt zs left) Cel.zero rfl rfl (J66.out.at_ (List.mem_cons_self ..)).1 ?_
        intro wn67 hst67
        have J67 := Lib.hid (J66.out.store hst67)
        clear hst67
        refine hK.out _ _ (HS.out _ J67.out.1) (fun hHeld67 => ?_)
        clear hK K
        try simp only [Act.put, List.getElem_toArray, List.getElem_cons_zero, List.getElem_cons_succ]
        refine wpAnyH_ready (rs := [15]) (by kernel_rfl) (by simp) ?_
        refine AllReadyH.cons rfl (fun K hK => ?_) AllReadyH.nil
        have JS68 := Lib.hid J67.out.swap
        rw [if_pos (by rfl)]
        refine wp_store_cel (.tmp 10) (.tmp 24) rfl g10 (celAt zs right) Cel.zero rfl rfl (JS68.out.at_ (List.mem_cons_self ..)).1 ?_
        intro wn68 hst68
        have J68 := Lib.hid (JS68.out.store hst68)
        clear hst68
        refine hK.out _ _ (HS.out _ J68.out.1) (fun hHeld68 => ?_)
        clear hK K
        try simp only [Act.put, List.getElem_toArray, List.getElem_cons_zero, List.getElem_cons_succ]
        refine wpAnyH_done (by kernel_rfl) ?_ _
        go_wp2_with fail
        go_meet
        case rel => exact ⟨g9, g10, rfl, rfl, Lib.hid (J68.out.swap)⟩
      exact AllReadyH.nil
    exact AllReadyH.nil
  case rest =>
    obtain ⟨g9, g10, rfl, rfl, J⟩ := hcut
    have HS2 : Hid (∀ X : World, X.heap[B]? = some (edt (.pointer a) root had why) → X.heap[g9]? = some (boxC (celAt zs left)) → X.heap[g10]? = some (boxC (celAt zs right)) → (fun X => X.cell? ⟨B, 0, none⟩ = some (.pointer a) ∧ (X.cell? ⟨g9, 4, none⟩ = some (.int .i64 (celAt zs left).s) ∧ X.cell? ⟨g9, 5, none⟩ = some (.int .i64 (celAt zs left).h)) ∧ (X.cell? ⟨g10, 4, none⟩ = some (.int .i64 (celAt zs right).s) ∧ X.cell? ⟨g10, 5, none⟩ = some (.int .i64 (celAt zs right).h))) X) := Lib.hid fun X h1 h2 h3 => ⟨(ecells h1).2.1.1, ⟨(cellsC h2).2.2.2.2.2.1, (cellsC h2).2.2.2.2.2.2⟩, ⟨(cellsC h3).2.2.2.2.2.1, (cellsC h3).2.2.2.2.2.2⟩⟩
    by_cases hm : (celAt zs left).h < (celAt zs right).h
    · have HP2 := HP.out
      simp only [if_pos hm] at HP2
      have HP := Lib.hid HP2
      clear HP2
      go_upto_region 2 with fail
      refine wp_region_held_drew (S := (fun X => X.cell? ⟨B, 0, none⟩ = some (.pointer a) ∧ (X.cell? ⟨g9, 4, none⟩ = some (.int .i64 (celAt zs left).s) ∧ X.cell? ⟨g9, 5, none⟩ = some (.int .i64 (celAt zs left).h)) ∧ (X.cell? ⟨g10, 4, none⟩ = some (.int .i64 (celAt zs right).s) ∧ X.cell? ⟨g10, 5, none⟩ = some (.int .i64 (celAt zs right).h)))) (by kernel_rfl) (HS2.out _ (HI.out _ J.out.1).1 (J.out.at_ (g := g9) (List.mem_cons_self ..)).1 (J.out.at_ (g := g10) (List.mem_cons_of_mem _ (List.mem_cons_self ..))).1) (fun hHeld0 => ?_)
      refine wpAnyH_take (i := 0) (v := ?_) rfl (by kernel_rfl) (by kernel_rfl) (by kernel_rfl) (fun _ _ _ h => h) (Or.inl ⟨by rfl, ?yq1⟩) (by assumption) ?qq1
      case yq1 => (intro wz hSw; (try dsimp only at hSw); go_simp <;> with_reducible rfl)
      try simp only [Act.put, List.getElem_toArray, List.getElem_cons_zero, List.setIfInBounds_toArray, List.set_cons_zero, List.set_cons_succ]
      refine wpAnyH_take (i := 1) (v := ?_) rfl (by kernel_rfl) (by kernel_rfl) (by kernel_rfl) (fun _ _ _ h => h) (Or.inl ⟨by rfl, ?yq2⟩) (by assumption) ?qq2
      case yq2 => (intro wz hSw; (try dsimp only at hSw); go_simp <;> with_reducible rfl)
      try simp only [Act.put, List.getElem_toArray, List.getElem_cons_zero, List.getElem_cons_succ, List.setIfInBounds_toArray, List.set_cons_zero, List.set_cons_succ]
      refine wpAnyH_take (i := 2) (v := ?_) rfl (by kernel_rfl) (by kernel_rfl) (by kernel_rfl) (fun _ _ _ h => h) (Or.inl ⟨by rfl, ?yq3⟩) (by assumption) ?qq3
      case yq3 => (intro wz hSw; (try dsimp only at hSw); go_simp <;> with_reducible rfl)
      try simp only [Act.put, List.getElem_toArray, List.getElem_cons_zero, List.getElem_cons_succ, List.setIfInBounds_toArray, List.set_cons_zero, List.set_cons_succ]
      refine wpAnyH_take (i := 3) (v := ?_) rfl (by kernel_rfl) (by kernel_rfl) (by kernel_rfl) (fun _ _ _ h => h) (Or.inl ⟨by rfl, ?yq4⟩) (by assumption) ?qq4
      case yq4 => (intro wz hSw; (try dsimp only at hSw); go_simp <;> with_reducible rfl)
      try simp only [Act.put, List.getElem_toArray, List.getElem_cons_zero, List.getElem_cons_succ, List.setIfInBounds_toArray, List.set_cons_zero, List.set_cons_succ]
      refine wpAnyH_take (i := 4) (v := ?_) rfl (by kernel_rfl) (by kernel_rfl) (by kernel_rfl) (fun _ _ _ h => h) (Or.inl ⟨by rfl, ?yq5⟩) (by assumption) ?qq5
      case yq5 => (intro wz hSw; (try dsimp only at hSw); go_simp <;> with_reducible rfl)
      try simp only [Act.put, List.getElem_toArray, List.getElem_cons_zero, List.getElem_cons_succ, List.setIfInBounds_toArray, List.set_cons_zero, List.set_cons_succ]
      refine wpAnyH_take (i := 5) (v := ?_) rfl (by kernel_rfl) (by kernel_rfl) (by kernel_rfl) (fun _ _ _ h => h) (Or.inl ⟨by rfl, ?yq6⟩) (by assumption) ?qq6
      case yq6 => (intro wz hSw; (try dsimp only at hSw); go_simp <;> with_reducible rfl)
      try simp only [Act.put, List.getElem_toArray, List.getElem_cons_zero, List.getElem_cons_succ, List.setIfInBounds_toArray, List.set_cons_zero, List.set_cons_succ]
      refine wpAnyH_take (i := 6) (v := ?_) rfl (by kernel_rfl) (by kernel_rfl) (by kernel_rfl) (fun _ _ _ h => h) (Or.inl ⟨by rfl, ?yq7⟩) (by assumption) ?qq7
      case yq7 => (intro wz hSw; (try dsimp only at hSw); go_simp <;> with_reducible rfl)
      try simp only [Act.put, List.getElem_toArray, List.getElem_cons_zero, List.getElem_cons_succ, List.setIfInBounds_toArray, List.set_cons_zero, List.set_cons_succ]
      refine wpAnyH_take (i := 7) (v := ?_) rfl (by kernel_rfl) (by kernel_rfl) (by kernel_rfl) (fun _ _ _ h => h) (Or.inl ⟨by rfl, ?yq8⟩) (by assumption) ?qq8
      case yq8 => (intro wz hSw; (try dsimp only at hSw); go_simp <;> with_reducible rfl)
      try simp only [Act.put, List.getElem_toArray, List.getElem_cons_zero, List.getElem_cons_succ, List.setIfInBounds_toArray, List.set_cons_zero, List.set_cons_succ]
      refine wpAnyH_take (i := 8) (v := ?_) rfl (by kernel_rfl) (by kernel_rfl) (by kernel_rfl) (fun _ _ _ h => h) (Or.inl ⟨by rfl, ?yq9⟩) (by assumption) ?qq9
      case yq9 => (intro wz hSw; (try dsimp only at hSw); go_simp <;> with_reducible rfl)
      try simp only [Act.put, List.getElem_toArray, List.getElem_cons_zero, List.getElem_cons_succ, List.setIfInBounds_toArray, List.set_cons_zero, List.set_cons_succ]
      refine wpAnyH_take (i := 9) (v := ?_) rfl (by kernel_rfl) (by kernel_rfl) (by kernel_rfl) (fun _ _ _ h => h) (Or.inl ⟨by rfl, ?yq10⟩) (by assumption) ?qq10
      case yq10 => (intro wz hSw; (try dsimp only at hSw); go_simp <;> with_reducible rfl)
      try simp only [Act.put, List.getElem_toArray, List.getElem_cons_zero, List.getElem_cons_succ, List.setIfInBounds_toArray, List.set_cons_zero, List.set_cons_succ]
      refine wpAnyH_take (i := 10) (v := ?_) rfl (by kernel_rfl) (by kernel_rfl) (by kernel_rfl) (fun _ _ _ h => h) (Or.inl ⟨by rfl, ?yq11⟩) (by assumption) ?qq11
      case yq11 => (intro wz hSw; (try dsimp only at hSw); go_simp <;> with_reducible rfl)
      try simp only [Act.put, List.getElem_toArray, List.getElem_cons_zero, List.getElem_cons_succ, List.setIfInBounds_toArray, List.set_cons_zero, List.set_cons_succ]
      refine wpAnyH_take (i := 11) (v := ?_) rfl (by kernel_rfl) (by kernel_rfl) (by kernel_rfl) (fun _ _ _ h => h) (Or.inl ⟨by rfl, ?yq12⟩) (by assumption) ?qq12
      case yq12 => (intro wz hSw; (try dsimp only at hSw); go_simp <;> with_reducible rfl)
      try simp only [Act.put, List.getElem_toArray, List.getElem_cons_zero, List.getElem_cons_succ, List.setIfInBounds_toArray, List.set_cons_zero, List.set_cons_succ]
      refine wpAnyH_take (i := 12) (v := ?_) rfl (by kernel_rfl) (by kernel_rfl) (by kernel_rfl) (fun _ _ _ h => h) (Or.inl ⟨by rfl, ?yq13⟩) (by assumption) ?qq13
      case yq13 => (intro wz hSw; (try dsimp only at hSw); go_simp <;> with_reducible rfl)
      try simp only [Act.put, List.getElem_toArray, List.getElem_cons_zero, List.getElem_cons_succ, List.setIfInBounds_toArray, List.set_cons_zero, List.set_cons_succ]
      refine wpAnyH_take (i := 13) (v := ?_) rfl (by kernel_rfl) (by kernel_rfl) (by kernel_rfl) (fun _ _ _ h => h) (Or.inl ⟨by rfl, ?yq14⟩) (by assumption) ?qq14
      case yq14 => (intro wz hSw; (try dsimp only at hSw); go_simp <;> with_reducible rfl)
      try simp only [Act.put, List.getElem_toArray, List.getElem_cons_zero, List.getElem_cons_succ, List.setIfInBounds_toArray, List.set_cons_zero, List.set_cons_succ]
      refine wpAnyH_take (i := 14) (v := ?_) rfl (by kernel_rfl) (by kernel_rfl) (by kernel_rfl) (fun _ _ _ h => h) (Or.inl ⟨by rfl, ?yq15⟩) (by assumption) ?qq15
      case yq15 => (intro wz hSw; (try dsimp only at hSw); go_simp <;> with_reducible rfl)
      try simp only [Act.put, List.getElem_toArray, List.getElem_cons_zero, List.getElem_cons_succ, List.setIfInBounds_toArray, List.set_cons_zero, List.set_cons_succ]
      refine wpAnyH_take (i := 15) (v := ?_) rfl (by kernel_rfl) (by kernel_rfl) (by kernel_rfl) (fun _ _ _ h => h) (Or.inl ⟨by rfl, ?yq16⟩) (by assumption) ?qq16
      case yq16 => (intro wz hSw; (try dsimp only at hSw); go_simp <;> with_reducible rfl)
      try simp only [Act.put, List.getElem_toArray, List.getElem_cons_zero, List.getElem_cons_succ, List.setIfInBounds_toArray, List.set_cons_zero, List.set_cons_succ]
      refine wpAnyH_take (i := 16) (v := ?_) rfl (by kernel_rfl) (by kernel_rfl) (by kernel_rfl) (fun _ _ _ h => h) (Or.inl ⟨by rfl, ?yq17⟩) (by assumption) ?qq17
      case yq17 => (intro wz hSw; (try dsimp only at hSw); go_simp <;> with_reducible rfl)
      try simp only [Act.put, List.getElem_toArray, List.getElem_cons_zero, List.getElem_cons_succ, List.setIfInBounds_toArray, List.set_cons_zero, List.set_cons_succ]
      refine wpAnyH_take (i := 17) (v := ?_) rfl (by kernel_rfl) (by kernel_rfl) (by kernel_rfl) (fun _ _ _ h => h) (Or.inl ⟨by rfl, ?yq18⟩) (by assumption) ?qq18
      case yq18 => (intro wz hSw; (try dsimp only at hSw); go_simp <;> with_reducible rfl)
      try simp only [Act.put, List.getElem_toArray, List.getElem_cons_zero, List.getElem_cons_succ, List.setIfInBounds_toArray, List.set_cons_zero, List.set_cons_succ]
      refine wpAnyH_take (i := 18) (v := ?_) rfl (by kernel_rfl) (by kernel_rfl) (by kernel_rfl) (fun _ _ _ h => h) (Or.inl ⟨by rfl, ?yq19⟩) (by assumption) ?qq19
      case yq19 => (intro wz hSw; (try dsimp only at hSw); go_simp <;> with_reducible rfl)
      try simp only [Act.put, List.getElem_toArray, List.getElem_cons_zero, List.getElem_cons_succ, List.setIfInBounds_toArray, List.set_cons_zero, List.set_cons_succ]
      refine wpAnyH_take (i := 19) (v := ?_) rfl (by kernel_rfl) (by kernel_rfl) (by kernel_rfl) (fun _ _ _ h => h) (Or.inl ⟨by rfl, ?yq20⟩) (by assumption) ?qq20
      case yq20 => (intro wz hSw; (try dsimp only at hSw); go_simp <;> with_reducible rfl)
      try simp only [Act.put, List.getElem_toArray, List.getElem_cons_zero, List.getElem_cons_succ, List.setIfInBounds_toArray, List.set_cons_zero, List.set_cons_succ]
      refine wpAnyH_take (i := 20) (v := ?_) rfl (by kernel_rfl) (by kernel_rfl) (by kernel_rfl) (fun _ _ _ h => h) (Or.inl ⟨by rfl, ?yq21⟩) (by assumption) ?qq21
      case yq21 => (intro wz hSw; (try dsimp only at hSw); go_simp <;> with_reducible rfl)
      try simp only [Act.put, List.getElem_toArray, List.getElem_cons_zero, List.getElem_cons_succ, List.setIfInBounds_toArray, List.set_cons_zero, List.set_cons_succ]
      refine wpAnyH_ready (rs := [21]) (by kernel_rfl) (by simp) ?_
      refine AllReadyH.cons rfl (fun K hK => ?_) AllReadyH.nil
      go_simp
      refine (HP.out _ (J.out.1.drew)).mono ?_
      intro e w5 hs
      obtain ⟨rfl, o5, hA5, hM5, hF5⟩ := hs
      have HB5 := Lib.hid (show EDI w5 B (.pointer a) o5 root had room zs2 why from ⟨(hF5.block (heap_lt (HI.out _ J.out.1.drew).1) (HI.out _ J.out.1.drew).nv).trans (HI.out _ J.out.1.drew).1, hA5⟩)
      have k9 : w5.heap[g9]? = some (boxC (celAt zs left)) := (hF5.block (heap_lt (J.out.at_ (g := g9) (List.mem_cons_self ..)).1) (fun k => by have h1 := H0.out.2.lt _ k; have h2 := (J.out.at_ (g := g9) (List.mem_cons_self ..)).2; omega)).trans (J.out.at_ (g := g9) (List.mem_cons_self ..)).1
      have k10 : w5.heap[g10]? = some (boxC (celAt zs right)) := (hF5.block (heap_lt (J.out.at_ (g := g10) (List.mem_cons_of_mem _ (List.mem_cons_self ..))).1) (fun k => by have h1 := H0.out.2.lt _ k; have h2 := (J.out.at_ (g := g10) (List.mem_cons_of_mem _ (List.mem_cons_self ..))).2; omega)).trans (J.out.at_ (g := g10) (List.mem_cons_of_mem _ (List.mem_cons_self ..))).1
      have HE5 := Lib.hid (And.intro hM5 hF5)
      clear hA5 hM5 hF5
      try go_wp2_with fail
      refine hK.out _ _ (HS2.out _ HB5.out.1 k9 k10) (fun hHeld22 => ?_)
      clear hK K
      try simp only [Act.put, List.getElem_toArray, List.getElem_cons_zero, List.getElem_cons_succ, List.setIfInBounds_toArray, List.set_cons_zero, List.set_cons_succ]
      refine wpAnyH_take (i := 22) (v := ?_) rfl (by kernel_rfl) (by kernel_rfl) (by kernel_rfl) (fun _ _ _ h => h) (Or.inl ⟨by rfl, ?yq23⟩) (by assumption) ?qq23
      case yq23 => (intro wz hSw; (try dsimp only at hSw); go_simp <;> with_reducible rfl)
      try simp only [Act.put, List.getElem_toArray, List.getElem_cons_zero, List.getElem_cons_succ, List.setIfInBounds_toArray, List.set_cons_zero, List.set_cons_succ]
      refine wpAnyH_take (i := 23) (v := ?_) rfl (by kernel_rfl) (by kernel_rfl) (by kernel_rfl) (fun _ _ _ h => h) (Or.inl ⟨by rfl, ?yq24⟩) (by assumption) ?qq24
      case yq24 => (intro wz hSw; (try dsimp only at hSw); go_simp <;> with_reducible rfl)
      try simp only [Act.put, List.getElem_toArray, List.getElem_cons_zero, List.getElem_cons_succ, List.setIfInBounds_toArray, List.set_cons_zero, List.set_cons_succ]
      refine wpAnyH_take (i := 24) (v := ?_) rfl (by kernel_rfl) (by kernel_rfl) (by kernel_rfl) (fun _ _ _ h => h) (Or.inl ⟨by rfl, ?yq25⟩) (by assumption) ?qq25
      case yq25 => (intro wz hSw; (try dsimp only at hSw); go_simp <;> with_reducible rfl)
      try simp only [Act.put, List.getElem_toArray, List.getElem_cons_zero, List.getElem_cons_succ, List.setIfInBounds_toArray, List.set_cons_zero, List.set_cons_succ]
      refine wpAnyH_take (i := 25) (v := ?_) rfl (by kernel_rfl) (by kernel_rfl) (by kernel_rfl) (fun _ _ _ h => h) (Or.inl ⟨by rfl, ?yq26⟩) (by assumption) ?qq26
      case yq26 => (intro wz hSw; (try dsimp only at hSw); go_simp <;> with_reducible rfl)
      try simp only [Act.put, List.getElem_toArray, List.getElem_cons_zero, List.getElem_cons_succ, List.setIfInBounds_toArray, List.set_cons_zero, List.set_cons_succ]
      refine wpAnyH_take (i := 26) (v := ?_) rfl (by kernel_rfl) (by kernel_rfl) (by kernel_rfl) (fun _ _ _ h => h) (Or.inl ⟨by rfl, ?yq27⟩) (by assumption) ?qq27
      case yq27 => (intro wz hSw; (try dsimp only at hSw); go_simp <;> with_reducible rfl)
      try simp only [Act.put, List.getElem_toArray, List.getElem_cons_zero, List.getElem_cons_succ, List.setIfInBounds_toArray, List.set_cons_zero, List.set_cons_succ]
      refine wpAnyH_done (by kernel_rfl) ?_ _
      rcases HY.out with ⟨rfl, rfl⟩ | ⟨rfl, rfl⟩
      · go_wp2_with fail
        go_ret
        exact ⟨rfl, o5, HB5.out, HE5.out.1.lower J.out.1.size, (Fr.of_below J.out.1).trans (HE5.out.2.mono fun g hg => .inr hg) (fun g _ k => k)⟩
      · obtain ⟨hgB, _, ⟨_, cB3⟩, fB3⟩ := ecells HB5.out.1
        have HB6 := Lib.hid (HB5.out.setwhy 2)
        go_wp2_with fail
        go_ret
        exact ⟨rfl, o5, HB6.out.1, HE5.out.1.lower J.out.1.size, ((Fr.of_below J.out.1).trans (HE5.out.2.mono fun g hg => .inr hg) (fun g _ k => k)).trans HB6.out.2 (fun g _ k => .inl k)⟩
    · have HP2 := HP.out
      simp only [if_neg hm] at HP2
      have HP := Lib.hid HP2
      clear HP2
      go_upto_region 2 with fail
      refine wp_region_held_drew (S := (fun X => X.cell? ⟨B, 0, none⟩ = some (.pointer a) ∧ (X.cell? ⟨g9, 4, none⟩ = some (.int .i64 (celAt zs left).s) ∧ X.cell? ⟨g9, 5, none⟩ = some (.int .i64 (celAt zs left).h)) ∧ (X.cell? ⟨g10, 4, none⟩ = some (.int .i64 (celAt zs right).s) ∧ X.cell? ⟨g10, 5, none⟩ = some (.int .i64 (celAt zs right).h)))) (by kernel_rfl) (HS2.out _ (HI.out _ J.out.1).1 (J.out.at_ (g := g9) (List.mem_cons_self ..)).1 (J.out.at_ (g := g10) (List.mem_cons_of_mem _ (List.mem_cons_self ..))).1) (fun hHeld0 => ?_)
      refine wpAnyH_take (i := 0) (v := ?_) rfl (by kernel_rfl) (by kernel_rfl) (by kernel_rfl) (fun _ _ _ h => h) (Or.inl ⟨by rfl, ?ys1⟩) (by assumption) ?qs1
      case ys1 => (intro wz hSw; (try dsimp only at hSw); go_simp <;> with_reducible rfl)
      try simp only [Act.put, List.getElem_toArray, List.getElem_cons_zero, List.setIfInBounds_toArray, List.set_cons_zero, List.set_cons_succ]
      refine wpAnyH_take (i := 1) (v := ?_) rfl (by kernel_rfl) (by kernel_rfl) (by kernel_rfl) (fun _ _ _ h => h) (Or.inl ⟨by rfl, ?ys2⟩) (by assumption) ?qs2
      case ys2 => (intro wz hSw; (try dsimp only at hSw); go_simp <;> with_reducible rfl)
      try simp only [Act.put, List.getElem_toArray, List.getElem_cons_zero, List.getElem_cons_succ, List.setIfInBounds_toArray, List.set_cons_zero, List.set_cons_succ]
      refine wpAnyH_take (i := 2) (v := ?_) rfl (by kernel_rfl) (by kernel_rfl) (by kernel_rfl) (fun _ _ _ h => h) (Or.inl ⟨by rfl, ?ys3⟩) (by assumption) ?qs3
      case ys3 => (intro wz hSw; (try dsimp only at hSw); go_simp <;> with_reducible rfl)
      try simp only [Act.put, List.getElem_toArray, List.getElem_cons_zero, List.getElem_cons_succ, List.setIfInBounds_toArray, List.set_cons_zero, List.set_cons_succ]
      refine wpAnyH_take (i := 3) (v := ?_) rfl (by kernel_rfl) (by kernel_rfl) (by kernel_rfl) (fun _ _ _ h => h) (Or.inl ⟨by rfl, ?ys4⟩) (by assumption) ?qs4
      case ys4 => (intro wz hSw; (try dsimp only at hSw); go_simp <;> with_reducible rfl)
      try simp only [Act.put, List.getElem_toArray, List.getElem_cons_zero, List.getElem_cons_succ, List.setIfInBounds_toArray, List.set_cons_zero, List.set_cons_succ]
      refine wpAnyH_take (i := 4) (v := ?_) rfl (by kernel_rfl) (by kernel_rfl) (by kernel_rfl) (fun _ _ _ h => h) (Or.inl ⟨by rfl, ?ys5⟩) (by assumption) ?qs5
      case ys5 => (intro wz hSw; (try dsimp only at hSw); go_simp <;> with_reducible rfl)
      try simp only [Act.put, List.getElem_toArray, List.getElem_cons_zero, List.getElem_cons_succ, List.setIfInBounds_toArray, List.set_cons_zero, List.set_cons_succ]
      refine wpAnyH_take (i := 5) (v := ?_) rfl (by kernel_rfl) (by kernel_rfl) (by kernel_rfl) (fun _ _ _ h => h) (Or.inl ⟨by rfl, ?ys6⟩) (by assumption) ?qs6
      case ys6 => (intro wz hSw; (try dsimp only at hSw); go_simp <;> with_reducible rfl)
      try simp only [Act.put, List.getElem_toArray, List.getElem_cons_zero, List.getElem_cons_succ, List.setIfInBounds_toArray, List.set_cons_zero, List.set_cons_succ]
      refine wpAnyH_take (i := 6) (v := ?_) rfl (by kernel_rfl) (by kernel_rfl) (by kernel_rfl) (fun _ _ _ h => h) (Or.inl ⟨by rfl, ?ys7⟩) (by assumption) ?qs7
      case ys7 => (intro wz hSw; (try dsimp only at hSw); go_simp <;> with_reducible rfl)
      try simp only [Act.put, List.getElem_toArray, List.getElem_cons_zero, List.getElem_cons_succ, List.setIfInBounds_toArray, List.set_cons_zero, List.set_cons_succ]
      refine wpAnyH_take (i := 7) (v := ?_) rfl (by kernel_rfl) (by kernel_rfl) (by kernel_rfl) (fun _ _ _ h => h) (Or.inl ⟨by rfl, ?ys8⟩) (by assumption) ?qs8
      case ys8 => (intro wz hSw; (try dsimp only at hSw); go_simp <;> with_reducible rfl)
      try simp only [Act.put, List.getElem_toArray, List.getElem_cons_zero, List.getElem_cons_succ, List.setIfInBounds_toArray, List.set_cons_zero, List.set_cons_succ]
      refine wpAnyH_take (i := 8) (v := ?_) rfl (by kernel_rfl) (by kernel_rfl) (by kernel_rfl) (fun _ _ _ h => h) (Or.inl ⟨by rfl, ?ys9⟩) (by assumption) ?qs9
      case ys9 => (intro wz hSw; (try dsimp only at hSw); go_simp <;> with_reducible rfl)
      try simp only [Act.put, List.getElem_toArray, List.getElem_cons_zero, List.getElem_cons_succ, List.setIfInBounds_toArray, List.set_cons_zero, List.set_cons_succ]
      refine wpAnyH_take (i := 9) (v := ?_) rfl (by kernel_rfl) (by kernel_rfl) (by kernel_rfl) (fun _ _ _ h => h) (Or.inl ⟨by rfl, ?ys10⟩) (by assumption) ?qs10
      case ys10 => (intro wz hSw; (try dsimp only at hSw); go_simp <;> with_reducible rfl)
      try simp only [Act.put, List.getElem_toArray, List.getElem_cons_zero, List.getElem_cons_succ, List.setIfInBounds_toArray, List.set_cons_zero, List.set_cons_succ]
      refine wpAnyH_take (i := 10) (v := ?_) rfl (by kernel_rfl) (by kernel_rfl) (by kernel_rfl) (fun _ _ _ h => h) (Or.inl ⟨by rfl, ?ys11⟩) (by assumption) ?qs11
      case ys11 => (intro wz hSw; (try dsimp only at hSw); go_simp <;> with_reducible rfl)
      try simp only [Act.put, List.getElem_toArray, List.getElem_cons_zero, List.getElem_cons_succ, List.setIfInBounds_toArray, List.set_cons_zero, List.set_cons_succ]
      refine wpAnyH_take (i := 11) (v := ?_) rfl (by kernel_rfl) (by kernel_rfl) (by kernel_rfl) (fun _ _ _ h => h) (Or.inl ⟨by rfl, ?ys12⟩) (by assumption) ?qs12
      case ys12 => (intro wz hSw; (try dsimp only at hSw); go_simp <;> with_reducible rfl)
      try simp only [Act.put, List.getElem_toArray, List.getElem_cons_zero, List.getElem_cons_succ, List.setIfInBounds_toArray, List.set_cons_zero, List.set_cons_succ]
      refine wpAnyH_take (i := 12) (v := ?_) rfl (by kernel_rfl) (by kernel_rfl) (by kernel_rfl) (fun _ _ _ h => h) (Or.inl ⟨by rfl, ?ys13⟩) (by assumption) ?qs13
      case ys13 => (intro wz hSw; (try dsimp only at hSw); go_simp <;> with_reducible rfl)
      try simp only [Act.put, List.getElem_toArray, List.getElem_cons_zero, List.getElem_cons_succ, List.setIfInBounds_toArray, List.set_cons_zero, List.set_cons_succ]
      refine wpAnyH_take (i := 13) (v := ?_) rfl (by kernel_rfl) (by kernel_rfl) (by kernel_rfl) (fun _ _ _ h => h) (Or.inl ⟨by rfl, ?ys14⟩) (by assumption) ?qs14
      case ys14 => (intro wz hSw; (try dsimp only at hSw); go_simp <;> with_reducible rfl)
      try simp only [Act.put, List.getElem_toArray, List.getElem_cons_zero, List.getElem_cons_succ, List.setIfInBounds_toArray, List.set_cons_zero, List.set_cons_succ]
      refine wpAnyH_take (i := 14) (v := ?_) rfl (by kernel_rfl) (by kernel_rfl) (by kernel_rfl) (fun _ _ _ h => h) (Or.inl ⟨by rfl, ?ys15⟩) (by assumption) ?qs15
      case ys15 => (intro wz hSw; (try dsimp only at hSw); go_simp <;> with_reducible rfl)
      try simp only [Act.put, List.getElem_toArray, List.getElem_cons_zero, List.getElem_cons_succ, List.setIfInBounds_toArray, List.set_cons_zero, List.set_cons_succ]
      refine wpAnyH_take (i := 15) (v := ?_) rfl (by kernel_rfl) (by kernel_rfl) (by kernel_rfl) (fun _ _ _ h => h) (Or.inl ⟨by rfl, ?ys16⟩) (by assumption) ?qs16
      case ys16 => (intro wz hSw; (try dsimp only at hSw); go_simp <;> with_reducible rfl)
      try simp only [Act.put, List.getElem_toArray, List.getElem_cons_zero, List.getElem_cons_succ, List.setIfInBounds_toArray, List.set_cons_zero, List.set_cons_succ]
      refine wpAnyH_take (i := 16) (v := ?_) rfl (by kernel_rfl) (by kernel_rfl) (by kernel_rfl) (fun _ _ _ h => h) (Or.inl ⟨by rfl, ?ys17⟩) (by assumption) ?qs17
      case ys17 => (intro wz hSw; (try dsimp only at hSw); go_simp <;> with_reducible rfl)
      try simp only [Act.put, List.getElem_toArray, List.getElem_cons_zero, List.getElem_cons_succ, List.setIfInBounds_toArray, List.set_cons_zero, List.set_cons_succ]
      refine wpAnyH_take (i := 17) (v := ?_) rfl (by kernel_rfl) (by kernel_rfl) (by kernel_rfl) (fun _ _ _ h => h) (Or.inl ⟨by rfl, ?ys18⟩) (by assumption) ?qs18
      case ys18 => (intro wz hSw; (try dsimp only at hSw); go_simp <;> with_reducible rfl)
      try simp only [Act.put, List.getElem_toArray, List.getElem_cons_zero, List.getElem_cons_succ, List.setIfInBounds_toArray, List.set_cons_zero, List.set_cons_succ]
      refine wpAnyH_take (i := 18) (v := ?_) rfl (by kernel_rfl) (by kernel_rfl) (by kernel_rfl) (fun _ _ _ h => h) (Or.inl ⟨by rfl, ?ys19⟩) (by assumption) ?qs19
      case ys19 => (intro wz hSw; (try dsimp only at hSw); go_simp <;> with_reducible rfl)
      try simp only [Act.put, List.getElem_toArray, List.getElem_cons_zero, List.getElem_cons_succ, List.setIfInBounds_toArray, List.set_cons_zero, List.set_cons_succ]
      refine wpAnyH_take (i := 19) (v := ?_) rfl (by kernel_rfl) (by kernel_rfl) (by kernel_rfl) (fun _ _ _ h => h) (Or.inl ⟨by rfl, ?ys20⟩) (by assumption) ?qs20
      case ys20 => (intro wz hSw; (try dsimp only at hSw); go_simp <;> with_reducible rfl)
      try simp only [Act.put, List.getElem_toArray, List.getElem_cons_zero, List.getElem_cons_succ, List.setIfInBounds_toArray, List.set_cons_zero, List.set_cons_succ]
      refine wpAnyH_take (i := 20) (v := ?_) rfl (by kernel_rfl) (by kernel_rfl) (by kernel_rfl) (fun _ _ _ h => h) (Or.inl ⟨by rfl, ?ys21⟩) (by assumption) ?qs21
      case ys21 => (intro wz hSw; (try dsimp only at hSw); go_simp <;> with_reducible rfl)
      try simp only [Act.put, List.getElem_toArray, List.getElem_cons_zero, List.getElem_cons_succ, List.setIfInBounds_toArray, List.set_cons_zero, List.set_cons_succ]
      refine wpAnyH_ready (rs := [21]) (by kernel_rfl) (by simp) ?_
      refine AllReadyH.cons rfl (fun K hK => ?_) AllReadyH.nil
      go_simp
      refine (HP.out _ (J.out.1.drew)).mono ?_
      intro e w5 hs
      obtain ⟨rfl, o5, hA5, hM5, hF5⟩ := hs
      have HB5 := Lib.hid (show EDI w5 B (.pointer a) o5 root had room zs2 why from ⟨(hF5.block (heap_lt (HI.out _ J.out.1.drew).1) (HI.out _ J.out.1.drew).nv).trans (HI.out _ J.out.1.drew).1, hA5⟩)
      have k9 : w5.heap[g9]? = some (boxC (celAt zs left)) := (hF5.block (heap_lt (J.out.at_ (g := g9) (List.mem_cons_self ..)).1) (fun k => by have h1 := H0.out.2.lt _ k; have h2 := (J.out.at_ (g := g9) (List.mem_cons_self ..)).2; omega)).trans (J.out.at_ (g := g9) (List.mem_cons_self ..)).1
      have k10 : w5.heap[g10]? = some (boxC (celAt zs right)) := (hF5.block (heap_lt (J.out.at_ (g := g10) (List.mem_cons_of_mem _ (List.mem_cons_self ..))).1) (fun k => by have h1 := H0.out.2.lt _ k; have h2 := (J.out.at_ (g := g10) (List.mem_cons_of_mem _ (List.mem_cons_self ..))).2; omega)).trans (J.out.at_ (g := g10) (List.mem_cons_of_mem _ (List.mem_cons_self ..))).1
      have HE5 := Lib.hid (And.intro hM5 hF5)
      clear hA5 hM5 hF5
      try go_wp2_with fail
      refine hK.out _ _ (HS2.out _ HB5.out.1 k9 k10) (fun hHeld22 => ?_)
      clear hK K
      try simp only [Act.put, List.getElem_toArray, List.getElem_cons_zero, List.getElem_cons_succ, List.setIfInBounds_toArray, List.set_cons_zero, List.set_cons_succ]
      refine wpAnyH_take (i := 22) (v := ?_) rfl (by kernel_rfl) (by kernel_rfl) (by kernel_rfl) (fun _ _ _ h => h) (Or.inl ⟨by rfl, ?ys23⟩) (by assumption) ?qs23
      case ys23 => (intro wz hSw; (try dsimp only at hSw); go_simp <;> with_reducible rfl)
      try simp only [Act.put, List.getElem_toArray, List.getElem_cons_zero, List.getElem_cons_succ, List.setIfInBounds_toArray, List.set_cons_zero, List.set_cons_succ]
      refine wpAnyH_take (i := 23) (v := ?_) rfl (by kernel_rfl) (by kernel_rfl) (by kernel_rfl) (fun _ _ _ h => h) (Or.inl ⟨by rfl, ?ys24⟩) (by assumption) ?qs24
      case ys24 => (intro wz hSw; (try dsimp only at hSw); go_simp <;> with_reducible rfl)
      try simp only [Act.put, List.getElem_toArray, List.getElem_cons_zero, List.getElem_cons_succ, List.setIfInBounds_toArray, List.set_cons_zero, List.set_cons_succ]
      refine wpAnyH_take (i := 24) (v := ?_) rfl (by kernel_rfl) (by kernel_rfl) (by kernel_rfl) (fun _ _ _ h => h) (Or.inl ⟨by rfl, ?ys25⟩) (by assumption) ?qs25
      case ys25 => (intro wz hSw; (try dsimp only at hSw); go_simp <;> with_reducible rfl)
      try simp only [Act.put, List.getElem_toArray, List.getElem_cons_zero, List.getElem_cons_succ, List.setIfInBounds_toArray, List.set_cons_zero, List.set_cons_succ]
      refine wpAnyH_take (i := 25) (v := ?_) rfl (by kernel_rfl) (by kernel_rfl) (by kernel_rfl) (fun _ _ _ h => h) (Or.inl ⟨by rfl, ?ys26⟩) (by assumption) ?qs26
      case ys26 => (intro wz hSw; (try dsimp only at hSw); go_simp <;> with_reducible rfl)
      try simp only [Act.put, List.getElem_toArray, List.getElem_cons_zero, List.getElem_cons_succ, List.setIfInBounds_toArray, List.set_cons_zero, List.set_cons_succ]
      refine wpAnyH_take (i := 26) (v := ?_) rfl (by kernel_rfl) (by kernel_rfl) (by kernel_rfl) (fun _ _ _ h => h) (Or.inl ⟨by rfl, ?ys27⟩) (by assumption) ?qs27
      case ys27 => (intro wz hSw; (try dsimp only at hSw); go_simp <;> with_reducible rfl)
      try simp only [Act.put, List.getElem_toArray, List.getElem_cons_zero, List.getElem_cons_succ, List.setIfInBounds_toArray, List.set_cons_zero, List.set_cons_succ]
      refine wpAnyH_done (by kernel_rfl) ?_ _
      rcases HY.out with ⟨rfl, rfl⟩ | ⟨rfl, rfl⟩
      · go_wp2_with fail
        go_ret
        exact ⟨rfl, o5, HB5.out, HE5.out.1.lower J.out.1.size, (Fr.of_below J.out.1).trans (HE5.out.2.mono fun g hg => .inr hg) (fun g _ k => k)⟩
      · obtain ⟨hgB, _, ⟨_, cB3⟩, fB3⟩ := ecells HB5.out.1
        have HB6 := Lib.hid (HB5.out.setwhy 2)
        go_wp2_with fail
        go_ret
        exact ⟨rfl, o5, HB6.out.1, HE5.out.1.lower J.out.1.size, ((Fr.of_below J.out.1).trans (HE5.out.2.mono fun g hg => .inr hg) (fun g _ k => k)).trans HB6.out.2 (fun g _ k => .inl k)⟩
end Go.Proofs.Ytbgepeokadmemaa.F
