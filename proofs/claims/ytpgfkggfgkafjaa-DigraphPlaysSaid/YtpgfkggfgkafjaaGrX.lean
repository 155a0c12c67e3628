/-
  DigraphPlays: the walk. Not a statement of the seat.
-/
import Derived.Test.YtpgfkggfgkafjaaHead14
import Derived.Deep.DeepCutAuto
namespace Go.Proofs.Ytpgfkggfgkafjaa.Gr
open Go.ChangeShapes Go.WideShapes Go.ChangeAt Go.RowKit Base Ro F Dl Ln Rf
open Go.Proofs.Ytpgfkggfgkafjaa.Tx (BoolNew Aft)
set_option maxRecDepth 100000 in
set_option maxHeartbeats 16000000 in
theorem plays_any (HLV : ∀ W : World, Calls Try.prog 6 #[] W (TruP W)) {v : Value} {l : List Dd22} (n mask : Int) (w : World) (h : Dd22s 0 w v l) : Calls Try.prog 3 #[.int .i64 n, v, .int .i64 mask] w (TruP w) := by
  obtain ⟨p, c, rfl, hlm, hc⟩ := h.open_
  have HT := Lib.hid hc
  have HL := Lib.hid HLV
  clear h hc HLV
  have HNW := Lib.hid (new_q n w)
  by_cases hl1 : 60 < l.length
  · clear HT
    have hl2 : (60 : Int) < (l.length : Int) := by omega
    go_enter Try.func3, Try.ntmps3
    go_wp2_with fail
    refine HNW.out.mono ?_
    rintro e w1 ⟨b, nbs, rfl, hq, hbn, hb⟩
    have HB := Lib.hid hb
    clear hb hq hbn HNW
    go_wp2_with fail
    refine (HL.out w1).mono ?_
    rintro e w2 ⟨rfl, hb⟩
    have HB2 := Lib.hid (HB.out.trans (hb.mono HB.out.size))
    clear hb HL HB
    go_wp2
    go_ret
    exact ⟨rfl, HB2.out⟩
  have hl2 : ¬ ((60 : Int) < (l.length : Int)) := by omega
  have hl3 : l.length ≤ 60 := by omega
  obtain ⟨M, hM⟩ : ∃ M, M = l.length := ⟨_, rfl⟩
  rw [← hM] at hl2 hl3 hlm ⊢
  have HM := Lib.hid hM
  clear hM hl1
  obtain ⟨N, hN⟩ : ∃ N, N = roomL n := ⟨_, rfl⟩
  have hN4 : N ≤ 4096 := by rw [hN]; exact roomL_le n
  have HRM := Lib.hid (fun W => room_any n W)
  rw [← hN] at HRM HNW
  clear hN
  go_enter Try.func3, Try.ntmps3
  go_wp2_with fail
  refine HNW.out.mono ?_
  rintro e w1 ⟨b, nbs, rfl, hq, hbn, hb⟩
  have HB := Lib.hid hb
  have hq : GQ w1 w.heap.size b N [] nbs := hq
  have HG0 : Hid (PG w w w1 b N nbs (.slice none 0 0) [] []) := Lib.hid ⟨⟨hq, hbn⟩, OwnArc.nil _ _, ⟨Nat.le_refl _, hb.size⟩, hb⟩
  clear hb hq hbn HNW HB
  go_wp2_with fail
  refine (HRM.out w1).mono ?_
  rintro e wx ⟨rfl, rfl⟩
  clear HRM
  go_wp2_with fail
  go_loopw [9, 33] (fun s9 s33 wr => ∃ (k : Nat) (u : Value) (q : List Arc), s33 = .int .i64 (k : Int) ∧ u = s9 ∧ k ≤ M ∧ q.length ≤ k ∧ Hid (PG w w wr b N nbs u q q)) (fun _ s33 _ => M - (intOf s33).toNat)
  case atStart => exact ⟨0, _, [], rfl, rfl, Nat.zero_le _, Nat.le_refl _, HG0⟩
  case round =>
    clear HG0
    obtain ⟨k, u, q, rfl, rfl, hk, hqk, HS⟩ := hrel
    by_cases hlt : k < M
    · obtain ⟨g, o, rfl, _, hg, c0, c1, c2, c3, c4⟩ := HT.out k (by have := HM.out; omega)
      have hbw : Below w.heap.size w wr := HS.out.2.2.2
      have c0 := (hbw.cell (p := ⟨g, _, none⟩) hg).trans c0
      have c1 := (hbw.cell (p := ⟨g, _, none⟩) hg).trans c1
      have c2 := (hbw.cell (p := ⟨g, _, none⟩) hg).trans c2
      have c3 := (hbw.cell (p := ⟨g, _, none⟩) hg).trans c3
      have c4 := (hbw.cell (p := ⟨g, _, none⟩) hg).trans c4
      have hg := Nat.lt_of_lt_of_le hg hbw.size
      have hkI : (k : Int) < (M : Int) := by omega
      generalize l.getD k Dd22.zero = x at c0 c1 c2 c3 c4
      obtain ⟨x0, x1, x2, x3, x4⟩ := x
      dsimp only at c0 c1 c2 c3 c4
      obtain ⟨X, hX⟩ : ∃ X, X = wr.alloc (bxD ⟨x0, x1, x2, x3, x4⟩) := ⟨_, rfl⟩
      obtain ⟨gd, hgd⟩ : ∃ gd, gd = wr.heap.size := ⟨_, rfl⟩
      have HX : Hid (PD w w X b N nbs u q q gd ⟨x0, x1, x2, x3, x4⟩) := Lib.hid (by rw [hX, hgd]; exact ⟨HS.out.below ((Below.refl _ _).alloc (Nat.le_refl _) _), heap_alloc_at _ _ _ rfl⟩)
      clear HS hbw
      unfold bxD at hX
      dsimp only at hX
      go_upto_region 9 with fail
      rw [← hX, ← hgd]
      clear hX hgd c0 c1 c2 c3 c4 hg
      have hq1 : q.length ≤ 1000 := by omega
      have HI := Lib.hid (pd_in HX.out hq1 ⟨x1, x2, x3, x4⟩)
      obtain ⟨r, hr⟩ : ∃ r, r = decide ((⟨x1, x2, x3, x4⟩ : Arc) ∈ q) := ⟨_, rfl⟩
      rw [← hr] at HI
      have HR := Lib.hid hr
      clear hr
      obtain ⟨d0, d1, d2, d3, d4⟩ := cellsD HX.out.2
      have hbl := heap_lt HX.out.2
      unfold vA at HI
      dsimp only at HI d0 d1 d2 d3 d4
      go_wp2_with fail
      refine HI.out.mono ?_
      rintro e w3 ⟨rfl, H3⟩
      clear HI HX d0 d1 d2 d3 d4 hbl
      obtain ⟨d0, d1, d2, d3, d4⟩ := cellsD H3.out.2
      have hbl := heap_lt H3.out.2
      dsimp only at d0 d1 d2 d3 d4
      go_upto_if 43 with fail
      go_cut [9] (fun s9 wx => ∃ (v' : Value) (q' : List Arc), v' = s9 ∧ q'.length ≤ k + 1 ∧ Hid (PD w w wx b N nbs v' q' q' gd ⟨x0, x1, x2, x3, x4⟩))
      case first =>
        by_cases hk0 : x0 = 0
        · subst hk0
          have HRI := Lib.hid (pd_right H3.out ⟨x1, x2, x3, x4⟩)
          unfold vA at HRI
          dsimp only at HRI
          by_cases hrt : rightO N ⟨x1, x2, x3, x4⟩
          · rw [decide_eq_true hrt] at HRI
            cases r with
            | true =>
              have hm : (⟨x1, x2, x3, x4⟩ : Arc) ∈ q := of_decide_eq_true HR.out.symm
              have he : addE N q ⟨x1, x2, x3, x4⟩ = 4 := by unfold addE; rw [if_pos hrt, if_pos hm]
              have hql : addL N q ⟨x1, x2, x3, x4⟩ = q := by unfold addL; rw [if_neg (fun hh => hh.2 hm)]
              have HE := Lib.hid (And.intro he hql)
              clear hm he hql hrt
              go_wp2_with fail
              refine HRI.out.mono ?_
              rintro e w4 ⟨rfl, H4⟩
              clear HRI H3 d0 d1 d2 d3 d4 hbl
              obtain ⟨d0, d1, d2, d3, d4⟩ := cellsD H4.out.2
              have hbl := heap_lt H4.out.2
              dsimp only at d0 d1 d2 d3 d4
              have HA := Lib.hid (pd_add H4.out hN4 (by omega) ⟨x1, x2, x3, x4⟩ 4 HE.out.1 HE.out.2)
              unfold vA at HA
              dsimp only at HA
              go_wp2_with fail
              refine HA.out.mono ?_
              rintro e w5 ⟨rfl, H5⟩
              clear HA H4 d0 d1 d2 d3 d4 hbl
              go_wp2_with fail
              go_meet
              case rel => exact ⟨_, q, rfl, by omega, H5⟩
            | false =>
              have hm : (⟨x1, x2, x3, x4⟩ : Arc) ∉ q := of_decide_eq_false HR.out.symm
              have he : addE N q ⟨x1, x2, x3, x4⟩ = 0 := by unfold addE; rw [if_pos hrt, if_neg hm]
              have hql : addL N q ⟨x1, x2, x3, x4⟩ = goA ⟨x1, x2, x3, x4⟩ false q := by unfold addL; rw [if_pos ⟨hrt, hm⟩]
              have hqn : (goA ⟨x1, x2, x3, x4⟩ false q).length ≤ k + 1 := by rw [← hql]; have := addL_len N q ⟨x1, x2, x3, x4⟩; omega
              have HE := Lib.hid (And.intro he (And.intro hql hqn))
              clear hm he hql hrt hqn
              go_wp2_with fail
              refine HRI.out.mono ?_
              rintro e w4 ⟨rfl, H4⟩
              clear HRI H3 d0 d1 d2 d3 d4 hbl
              obtain ⟨d0, d1, d2, d3, d4⟩ := cellsD H4.out.2
              have hbl := heap_lt H4.out.2
              dsimp only at d0 d1 d2 d3 d4
              have HP := Lib.hid (pd_put H4.out hq1 ⟨x1, x2, x3, x4⟩)
              unfold vA at HP
              dsimp only at HP
              go_wp2_with fail
              refine HP.out.mono ?_
              rintro e w5 ⟨u5, rfl, H5⟩
              clear HP H4 d0 d1 d2 d3 d4 hbl
              obtain ⟨d0, d1, d2, d3, d4⟩ := cellsD H5.out.2
              have hbl := heap_lt H5.out.2
              dsimp only at d0 d1 d2 d3 d4
              have HA := Lib.hid (pd_add H5.out hN4 (by omega) ⟨x1, x2, x3, x4⟩ 0 HE.out.1 HE.out.2.1)
              unfold vA at HA
              dsimp only at HA
              go_wp2_with fail
              refine HA.out.mono ?_
              rintro e w6 ⟨rfl, H6⟩
              clear HA H5 d0 d1 d2 d3 d4 hbl
              go_wp2_with fail
              go_meet
              case rel => exact ⟨_, _, rfl, HE.out.2.2, H6⟩
          · rw [decide_eq_false hrt] at HRI
            have he : addE N q ⟨x1, x2, x3, x4⟩ = 1 := by unfold addE; rw [if_neg hrt]
            have hql : addL N q ⟨x1, x2, x3, x4⟩ = q := by unfold addL; rw [if_neg (fun hh => hrt hh.1)]
            have HE := Lib.hid (And.intro he hql)
            clear he hql hrt
            go_wp2_with fail
            refine HRI.out.mono ?_
            rintro e w4 ⟨rfl, H4⟩
            clear HRI H3 d0 d1 d2 d3 d4 hbl
            obtain ⟨d0, d1, d2, d3, d4⟩ := cellsD H4.out.2
            have hbl := heap_lt H4.out.2
            dsimp only at d0 d1 d2 d3 d4
            have HA := Lib.hid (pd_add H4.out hN4 (by omega) ⟨x1, x2, x3, x4⟩ 1 HE.out.1 HE.out.2)
            unfold vA at HA
            dsimp only at HA
            go_wp2_with fail
            refine HA.out.mono ?_
            rintro e w5 ⟨rfl, H5⟩
            clear HA H4 d0 d1 d2 d3 d4 hbl
            go_wp2_with fail
            go_meet
            case rel => exact ⟨_, q, rfl, by omega, H5⟩
        · have hk1 : (x0 == 0) = false := beq_false_of_ne hk0
          have HP := Lib.hid (pd_del H3.out hq1 ⟨x1, x2, x3, x4⟩)
          have HE : Hid ((if (⟨x1, x2, x3, x4⟩ : Arc) ∈ q then (0 : Int) else 3) = (if r then 0 else 3) ∧ (dropA q ⟨x1, x2, x3, x4⟩).length ≤ k + 1) := Lib.hid ⟨by rw [HR.out]; by_cases hm : (⟨x1, x2, x3, x4⟩ : Arc) ∈ q <;> simp [hm], by have : (dropA q ⟨x1, x2, x3, x4⟩).length ≤ q.length := List.length_filter_le _ _; omega⟩
          unfold vA at HP
          dsimp only at HP
          go_wp2_with fail
          refine HP.out.mono ?_
          rintro e w4 ⟨u4, rfl, H4⟩
          clear HP H3 d0 d1 d2 d3 d4 hbl
          obtain ⟨d0, d1, d2, d3, d4⟩ := cellsD H4.out.2
          have hbl := heap_lt H4.out.2
          dsimp only at d0 d1 d2 d3 d4
          have HA := Lib.hid (pd_drop H4.out hN4 ⟨x1, x2, x3, x4⟩ _ HE.out.1 rfl)
          unfold vA at HA
          dsimp only at HA
          go_wp2_with fail
          refine HA.out.mono ?_
          rintro e w5 ⟨rfl, H5⟩
          clear HA H4 d0 d1 d2 d3 d4 hbl
          cases r <;>
          · simp only [if_true, if_false, Bool.false_eq_true]
            go_wp2_with fail
            go_meet
            case rel => exact ⟨_, _, rfl, HE.out.2, H5⟩
      case rest =>
        obtain ⟨v', q', rfl, hq2, H4⟩ := hcut
        clear d0 d1 d2 d3 d4 hbl H3 HR
        have hq5 : q'.length ≤ 1000 := by omega
        have HKD : Hid (∀ y ∈ q', 0 ≤ y.kd ∧ y.kd < 4) := Lib.hid fun y hy => by
          have := H4.out.1.1.1.1.1 y hy
          unfold rightO at this
          omega
        have HOF := Lib.hid (pd_of H4.out hq5 HKD.out mask)
        clear HKD
        go_wp2_with fail
        refine HOF.out.mono ?_
        rintro e w5 ⟨vp, rfl, H5⟩
        clear HOF H4
        go_upto_region 23 with fail
        simp only [List.append_eq, List.cons_append, List.nil_append]
        obtain ⟨D, hD⟩ : ∃ D, D = w5.drew := ⟨_, rfl⟩
        have H6 : Hid (PD w w D b N nbs v' q' q' gd ⟨x0, x1, x2, x3, x4⟩ ∧ Arcs 0 D vp (ofA q' mask)) := Lib.hid (by
          have hb : Below w5.heap.size w5 D := by rw [hD]; exact below_drewN (Below.refl _ _) 1
          exact ⟨H5.out.1.below hb, H5.out.2.below hb⟩)
        clear H5
        obtain ⟨p9, c9, hv9, _⟩ := (H6.out.1.arcs hq5).open_
        subst hv9
        have HND : Hid (∀ Z, Below D.heap.size D Z → Calls Try.prog 15 #[.pointer (some ⟨b, 0, none⟩)] Z (HeldP (.int .i64 (N : Int)) Z)) := Lib.hid fun Z hZ => nodes_q (H6.out.1.1.1.1.below hZ)
        have HLN : Hid (∀ Z, Below D.heap.size D Z → Calls Try.prog 16 #[.pointer (some ⟨b, 0, none⟩)] Z (HeldP (.int .i64 (q'.length : Int)) Z)) := Lib.hid fun Z hZ => len_q (H6.out.1.1.1.1.below hZ)
        obtain ⟨rb, hr⟩ : ∃ r, r = decide ((⟨x1, x2, x3, x4⟩ : Arc) ∈ q') := ⟨_, rfl⟩
        have HHS : Hid (∀ Z, Below D.heap.size D Z → Calls Try.prog 17 #[.pointer (some ⟨b, 0, none⟩), vA ⟨x1, x2, x3, x4⟩] Z (HeldP (.bool rb) Z)) := Lib.hid fun Z hZ => by rw [hr]; exact has_q (H6.out.1.1.1.1.below hZ) hN4 _
        have HIN : Hid (∀ Z, Below D.heap.size D Z → Calls Try.prog 8 #[.slice p9 q'.length c9, vA ⟨x1, x2, x3, x4⟩] Z fun e w' => e = .returned (.bool rb) ∧ Hid (Below D.heap.size D w')) := Lib.hid fun Z hZ => pl_in hZ ((H6.out.1.below hZ).arcs hq5) _ rb hr.symm
        obtain ⟨P, hP⟩ : ∃ P, P = ofA q' mask := ⟨_, rfl⟩
        have hPl : P.length ≤ 1000 := by rw [hP]; have := ofA_len q' mask; omega
        have HAR : Hid (∀ Z, Below D.heap.size D Z → Calls Try.prog 19 #[.pointer (some ⟨b, 0, none⟩), .int .i64 mask] Z (GatP Z P)) := Lib.hid fun Z hZ => by rw [hP]; exact arcs_q (H6.out.1.1.1.1.below hZ) hN4 mask
        have HO : Hid (∀ Z, Below D.heap.size D Z → Calls Try.prog 20 #[.pointer (some ⟨b, 0, none⟩), .int .i64 x1, .int .i64 mask] Z (GatP Z (P.filter fun y : Arc => y.fr == x1))) := Lib.hid fun Z hZ => by rw [hP]; exact out_q (H6.out.1.1.1.1.below hZ) hN4 mask x1
        have HNX : Hid (∀ Z, Below D.heap.size D Z → Calls Try.prog 23 #[.pointer (some ⟨b, 0, none⟩), .int .i64 x1, .int .i64 mask] Z (NumsP Z (sideO P x1 false))) := Lib.hid fun Z hZ => by rw [hP]; exact next_q (H6.out.1.1.1.1.below hZ) hN4 mask x1
        have HPV : Hid (∀ Z, Below D.heap.size D Z → Calls Try.prog 25 #[.pointer (some ⟨b, 0, none⟩), .int .i64 x2, .int .i64 mask] Z (NumsP Z (sideO P x2 true))) := Lib.hid fun Z hZ => by rw [hP]; exact prev_q (H6.out.1.1.1.1.below hZ) hN4 mask x2
        have HVP : Hid (∀ Z, Below D.heap.size D Z → Arcs 0 Z vp P) := Lib.hid fun Z hZ => by rw [hP]; exact H6.out.2.below hZ
        have HRO : Hid (∀ Z, Below D.heap.size D Z → Calls Try.prog 21 #[vp, .int .i64 x1] Z (ArcsP (P.filter fun y : Arc => y.fr == x1) Z)) := Lib.hid fun Z hZ => gout_any x1 Z (HVP.out Z hZ) (by omega)
        have HRN : Hid (∀ Z, Below D.heap.size D Z → Calls Try.prog 24 #[vp, .int .i64 x1, .bool false] Z (OwnNew (sideO P x1 false) Z)) := Lib.hid fun Z hZ => gnext_fwd x1 Z (HVP.out Z hZ) (by omega)
        have HRP : Hid (∀ Z, Below D.heap.size D Z → Calls Try.prog 24 #[vp, .int .i64 x2, .bool true] Z (OwnNew (sideO P x2 true) Z)) := Lib.hid fun Z hZ => gnext_back x2 Z (HVP.out Z hZ) (by omega)
        have HCD : Hid (∀ Z, Below D.heap.size D Z → (Z.cell? ⟨gd, 1, none⟩ = some (.int .i64 x1) ∧ Z.cell? ⟨gd, 2, none⟩ = some (.int .i64 x2) ∧ Z.cell? ⟨gd, 3, none⟩ = some (.int .i64 x3) ∧ Z.cell? ⟨gd, 4, none⟩ = some (.int .i64 x4))) := Lib.hid fun Z hZ => (cellsD (H6.out.1.below hZ).2).2
        have HSL : Hid (∀ z back, (sideO P z back).length ≤ 1000) := Lib.hid fun z back => by have := sideO_len P z back; omega
        have HFL : Hid ((P.filter fun y : Arc => y.fr == x1).length ≤ 1000) := Lib.hid (Nat.le_trans (List.length_filter_le _ _) hPl)
        have HPL : Hid (P.length ≤ 1000) := Lib.hid hPl
        obtain ⟨Q, hQ⟩ : ∃ Q, Q = q'.length := ⟨_, rfl⟩
        rw [← hQ] at HLN HIN ⊢
        rw [← hQ] at hq2
        have HQ := Lib.hid hQ
        unfold vA at HHS HIN
        dsimp only at HHS HIN
        have HD0 : Hid (Below D.heap.size D D) := Lib.hid (Below.refl _ _)
        have hN0 : ((N : Int) != (N : Int)) = false := bne_self_eq_false _
        have hQ0 : ((Q : Int) != (Q : Int)) = false := bne_self_eq_false _
        have hr0 : (rb != rb) = false := bne_self_eq_false _
        clear hP hPl hQ hr
        refine wp_region_held_drew (S := fun Z => Z.cell? ⟨gd, 1, none⟩ = some (.int .i64 x1) ∧ Z.cell? ⟨gd, 2, none⟩ = some (.int .i64 x2) ∧ Z.cell? ⟨gd, 3, none⟩ = some (.int .i64 x3) ∧ Z.cell? ⟨gd, 4, none⟩ = some (.int .i64 x4)) (by kernel_rfl) (hD ▸ HCD.out _ HD0.out) (fun hHeld0 => ?_)
        rw [← hD] at hHeld0 ⊢
        clear hD
        refine wpAnyH_take (i := 0) (v := ?_) rfl (by as_aux_lemma => kernel_rfl) (by as_aux_lemma => kernel_rfl) (by as_aux_lemma => kernel_rfl) (fun _ _ _ h => h) (Or.inl ⟨by as_aux_lemma => rfl, ?yw0⟩) (by assumption) ?qw0
        case yw0 => (intro wz hSw; (try dsimp only at hSw); go_simp <;> with_reducible rfl)
        try simp only [Act.put, List.getElem_toArray, List.getElem_cons_zero, List.setIfInBounds_toArray, List.set_cons_zero, List.set_cons_succ]
        refine wpAnyH_take (i := 2) (v := ?_) rfl (by as_aux_lemma => kernel_rfl) (by as_aux_lemma => kernel_rfl) (by as_aux_lemma => kernel_rfl) (fun _ _ _ h => h) (Or.inl ⟨by as_aux_lemma => rfl, ?yw2⟩) (by assumption) ?qw2
        case yw2 => (intro wz hSw; (try dsimp only at hSw); go_simp <;> with_reducible rfl)
        try simp only [Act.put, List.getElem_toArray, List.getElem_cons_zero, List.getElem_cons_succ, List.setIfInBounds_toArray, List.set_cons_zero, List.set_cons_succ]
        refine wpAnyH_ready (rs := [1]) (by as_aux_lemma => kernel_rfl) (by simp) ?_
        refine AllReadyH.cons rfl (fun K hK => ?_) AllReadyH.nil
        go_simp
        refine (HND.out _ HD0.out).mono ?_
        intro e u21 hp
        obtain ⟨he, H21⟩ := pl_held (v := .int .i64 (N : Int)) HD0.out hp
        subst he
        clear hp
        refine hK.out _ _ (HCD.out _ H21.out) (fun hHeld21 => ?_)
        clear hK K
        try simp only [Act.put, List.getElem_toArray, List.getElem_cons_zero, List.getElem_cons_succ, List.setIfInBounds_toArray, List.set_cons_zero, List.set_cons_succ]
        refine wpAnyH_take (i := 3) (v := ?_) rfl (by as_aux_lemma => kernel_rfl) (by as_aux_lemma => kernel_rfl) (by as_aux_lemma => kernel_rfl) (fun _ _ _ h => h) (Or.inl ⟨by as_aux_lemma => rfl, ?yw3⟩) (by assumption) ?qw3
        case yw3 => (intro wz hSw; (try dsimp only at hSw); go_simp <;> with_reducible rfl)
        try simp only [Act.put, List.getElem_toArray, List.getElem_cons_zero, List.getElem_cons_succ, List.setIfInBounds_toArray, List.set_cons_zero, List.set_cons_succ]
        refine wpAnyH_take (i := 4) (v := ?_) rfl (by as_aux_lemma => kernel_rfl) (by as_aux_lemma => kernel_rfl) (by as_aux_lemma => kernel_rfl) (fun _ _ _ h => h) (Or.inl ⟨by as_aux_lemma => rfl, ?yw4⟩) (by assumption) ?qw4
        case yw4 => (intro wz hSw; (try dsimp only at hSw); go_simp <;> with_reducible rfl)
        try simp only [Act.put, List.getElem_toArray, List.getElem_cons_zero, List.getElem_cons_succ, List.setIfInBounds_toArray, List.set_cons_zero, List.set_cons_succ]
        refine wpAnyH_take (i := 5) (v := ?_) rfl (by as_aux_lemma => kernel_rfl) (by as_aux_lemma => kernel_rfl) (by as_aux_lemma => kernel_rfl) (fun _ _ _ h => h) (Or.inl ⟨by as_aux_lemma => rfl, ?yw5⟩) (by assumption) ?qw5
        case yw5 => (intro wz hSw; (try dsimp only at hSw); go_simp <;> with_reducible rfl)
        try simp only [Act.put, List.getElem_toArray, List.getElem_cons_zero, List.getElem_cons_succ, List.setIfInBounds_toArray, List.set_cons_zero, List.set_cons_succ]
        refine wpAnyH_take (i := 7) (v := ?_) rfl (by as_aux_lemma => kernel_rfl) (by as_aux_lemma => kernel_rfl) (by as_aux_lemma => kernel_rfl) (fun _ _ _ h => h) (Or.inl ⟨by as_aux_lemma => rfl, ?yw7⟩) (by assumption) ?qw7
        case yw7 => (intro wz hSw; (try dsimp only at hSw); go_simp <;> with_reducible rfl)
        try simp only [Act.put, List.getElem_toArray, List.getElem_cons_zero, List.getElem_cons_succ, List.setIfInBounds_toArray, List.set_cons_zero, List.set_cons_succ]
        refine wpAnyH_take (i := 8) (v := ?_) rfl (by as_aux_lemma => kernel_rfl) (by as_aux_lemma => kernel_rfl) (by as_aux_lemma => kernel_rfl) (fun _ _ _ h => h) (Or.inl ⟨by as_aux_lemma => rfl, ?yw8⟩) (by assumption) ?qw8
        case yw8 => (intro wz hSw; (try dsimp only at hSw); go_simp <;> with_reducible rfl)
        try simp only [Act.put, List.getElem_toArray, List.getElem_cons_zero, List.getElem_cons_succ, List.setIfInBounds_toArray, List.set_cons_zero, List.set_cons_succ]
        refine wpAnyH_ready (rs := [6]) (by as_aux_lemma => kernel_rfl) (by simp) ?_
        refine AllReadyH.cons rfl (fun K hK => ?_) AllReadyH.nil
        go_simp
        refine (HLN.out _ H21.out).mono ?_
        intro e u22 hp
        obtain ⟨he, H22⟩ := pl_held (v := .int .i64 (Q : Int)) H21.out hp
        subst he
        clear hp
        refine hK.out _ _ (HCD.out _ H22.out) (fun hHeld22 => ?_)
        clear hK K
        try simp only [Act.put, List.getElem_toArray, List.getElem_cons_zero, List.getElem_cons_succ, List.setIfInBounds_toArray, List.set_cons_zero, List.set_cons_succ]
        refine wpAnyH_take (i := 9) (v := ?_) rfl (by as_aux_lemma => kernel_rfl) (by as_aux_lemma => kernel_rfl) (by as_aux_lemma => kernel_rfl) (fun _ _ _ h => h) (Or.inl ⟨by as_aux_lemma => rfl, ?yw9⟩) (by assumption) ?qw9
        case yw9 => (intro wz hSw; (try dsimp only at hSw); go_simp <;> with_reducible rfl)
        try simp only [Act.put, List.getElem_toArray, List.getElem_cons_zero, List.getElem_cons_succ, List.setIfInBounds_toArray, List.set_cons_zero, List.set_cons_succ]
        refine wpAnyH_take (i := 10) (v := ?_) rfl (by as_aux_lemma => kernel_rfl) (by as_aux_lemma => kernel_rfl) (by as_aux_lemma => kernel_rfl) (fun _ _ _ h => h) (Or.inl ⟨by as_aux_lemma => rfl, ?yw10⟩) (by assumption) ?qw10
        case yw10 => (intro wz hSw; (try dsimp only at hSw); go_simp <;> with_reducible rfl)
        try simp only [Act.put, List.getElem_toArray, List.getElem_cons_zero, List.getElem_cons_succ, List.setIfInBounds_toArray, List.set_cons_zero, List.set_cons_succ]
        refine wpAnyH_take (i := 11) (v := ?_) rfl (by as_aux_lemma => kernel_rfl) (by as_aux_lemma => kernel_rfl) (by as_aux_lemma => kernel_rfl) (fun _ _ _ h => h) (Or.inl ⟨by as_aux_lemma => rfl, ?yw11⟩) (by assumption) ?qw11
        case yw11 => (intro wz hSw; (try dsimp only at hSw); go_simp <;> with_reducible rfl)
        try simp only [Act.put, List.getElem_toArray, List.getElem_cons_zero, List.getElem_cons_succ, List.setIfInBounds_toArray, List.set_cons_zero, List.set_cons_succ]
        refine wpAnyH_take (i := 12) (v := ?_) rfl (by as_aux_lemma => kernel_rfl) (by as_aux_lemma => kernel_rfl) (by as_aux_lemma => kernel_rfl) (fun _ _ _ h => h) (Or.inl ⟨by as_aux_lemma => rfl, ?yw12⟩) (by assumption) ?qw12
        case yw12 => (intro wz hSw; (try dsimp only at hSw); go_simp <;> with_reducible rfl)
        try simp only [Act.put, List.getElem_toArray, List.getElem_cons_zero, List.getElem_cons_succ, List.setIfInBounds_toArray, List.set_cons_zero, List.set_cons_succ]
        refine wpAnyH_take (i := 13) (v := ?_) rfl (by as_aux_lemma => kernel_rfl) (by as_aux_lemma => kernel_rfl) (by as_aux_lemma => kernel_rfl) (fun _ _ _ h => h) (Or.inl ⟨by as_aux_lemma => rfl, ?yw13⟩) (by assumption) ?qw13
        case yw13 => (intro wz hSw; (try dsimp only at hSw); go_simp <;> with_reducible rfl)
        try simp only [Act.put, List.getElem_toArray, List.getElem_cons_zero, List.getElem_cons_succ, List.setIfInBounds_toArray, List.set_cons_zero, List.set_cons_succ]
        refine wpAnyH_take (i := 14) (v := ?_) rfl (by as_aux_lemma => kernel_rfl) (by as_aux_lemma => kernel_rfl) (by as_aux_lemma => kernel_rfl) (fun _ _ _ h => h) (Or.inl ⟨by as_aux_lemma => rfl, ?yw14⟩) (by assumption) ?qw14
        case yw14 => (intro wz hSw; (try dsimp only at hSw); go_simp <;> with_reducible rfl)
        try simp only [Act.put, List.getElem_toArray, List.getElem_cons_zero, List.getElem_cons_succ, List.setIfInBounds_toArray, List.set_cons_zero, List.set_cons_succ]
        refine wpAnyH_take (i := 16) (v := ?_) rfl (by as_aux_lemma => kernel_rfl) (by as_aux_lemma => kernel_rfl) (by as_aux_lemma => kernel_rfl) (fun _ _ _ h => h) (Or.inl ⟨by as_aux_lemma => rfl, ?yw16⟩) (by assumption) ?qw16
        case yw16 => (intro wz hSw; (try dsimp only at hSw); go_simp <;> with_reducible rfl)
        try simp only [Act.put, List.getElem_toArray, List.getElem_cons_zero, List.getElem_cons_succ, List.setIfInBounds_toArray, List.set_cons_zero, List.set_cons_succ]
        refine wpAnyH_take (i := 17) (v := ?_) rfl (by as_aux_lemma => kernel_rfl) (by as_aux_lemma => kernel_rfl) (by as_aux_lemma => kernel_rfl) (fun _ _ _ h => h) (Or.inl ⟨by as_aux_lemma => rfl, ?yw17⟩) (by assumption) ?qw17
        case yw17 => (intro wz hSw; (try dsimp only at hSw); go_simp <;> with_reducible rfl)
        try simp only [Act.put, List.getElem_toArray, List.getElem_cons_zero, List.getElem_cons_succ, List.setIfInBounds_toArray, List.set_cons_zero, List.set_cons_succ]
        refine wpAnyH_take (i := 18) (v := ?_) rfl (by as_aux_lemma => kernel_rfl) (by as_aux_lemma => kernel_rfl) (by as_aux_lemma => kernel_rfl) (fun _ _ _ h => h) (Or.inl ⟨by as_aux_lemma => rfl, ?yw18⟩) (by assumption) ?qw18
        case yw18 => (intro wz hSw; (try dsimp only at hSw); go_simp <;> with_reducible rfl)
        try simp only [Act.put, List.getElem_toArray, List.getElem_cons_zero, List.getElem_cons_succ, List.setIfInBounds_toArray, List.set_cons_zero, List.set_cons_succ]
        refine wpAnyH_ready (rs := [15]) (by as_aux_lemma => kernel_rfl) (by simp) ?_
        refine AllReadyH.cons rfl (fun K hK => ?_) AllReadyH.nil
        go_simp
        refine (HHS.out _ H22.out).mono ?_
        intro e u23 hp
        obtain ⟨he, H23⟩ := pl_held (v := .bool rb) H22.out hp
        subst he
        clear hp
        refine hK.out _ _ (HCD.out _ H23.out) (fun hHeld23 => ?_)
        clear hK K
        try simp only [Act.put, List.getElem_toArray, List.getElem_cons_zero, List.getElem_cons_succ, List.setIfInBounds_toArray, List.set_cons_zero, List.set_cons_succ]
        refine wpAnyH_ready (rs := [19]) (by as_aux_lemma => kernel_rfl) (by simp) ?_
        refine AllReadyH.cons rfl (fun K hK => ?_) AllReadyH.nil
        go_simp
        refine (HIN.out _ H23.out).mono ?_
        rintro e u24 ⟨rfl, H24⟩
        refine hK.out _ _ (HCD.out _ H24.out) (fun hHeld24 => ?_)
        clear hK K
        try simp only [Act.put, List.getElem_toArray, List.getElem_cons_zero, List.getElem_cons_succ, List.setIfInBounds_toArray, List.set_cons_zero, List.set_cons_succ]
        refine wpAnyH_take (i := 20) (v := ?_) rfl (by as_aux_lemma => kernel_rfl) (by as_aux_lemma => kernel_rfl) (by as_aux_lemma => kernel_rfl) (fun _ _ _ h => h) (Or.inl ⟨by as_aux_lemma => rfl, ?yw20⟩) (by assumption) ?qw20
        case yw20 => (intro wz hSw; (try dsimp only at hSw); go_simp <;> with_reducible rfl)
        try simp only [Act.put, List.getElem_toArray, List.getElem_cons_zero, List.getElem_cons_succ, List.setIfInBounds_toArray, List.set_cons_zero, List.set_cons_succ]
        refine wpAnyH_take (i := 21) (v := ?_) rfl (by as_aux_lemma => kernel_rfl) (by as_aux_lemma => kernel_rfl) (by as_aux_lemma => kernel_rfl) (fun _ _ _ h => h) (Or.inl ⟨by as_aux_lemma => rfl, ?yw21⟩) (by assumption) ?qw21
        case yw21 => (intro wz hSw; (try dsimp only at hSw); go_simp <;> with_reducible rfl)
        try simp only [Act.put, List.getElem_toArray, List.getElem_cons_zero, List.getElem_cons_succ, List.setIfInBounds_toArray, List.set_cons_zero, List.set_cons_succ]
        refine wpAnyH_take (i := 22) (v := ?_) rfl (by as_aux_lemma => kernel_rfl) (by as_aux_lemma => kernel_rfl) (by as_aux_lemma => kernel_rfl) (fun _ _ _ h => h) (Or.inl ⟨by as_aux_lemma => rfl, ?yw22⟩) (by assumption) ?qw22
        case yw22 => (intro wz hSw; (try dsimp only at hSw); go_simp <;> with_reducible rfl)
        try simp only [Act.put, List.getElem_toArray, List.getElem_cons_zero, List.getElem_cons_succ, List.setIfInBounds_toArray, List.set_cons_zero, List.set_cons_succ]
        refine wpAnyH_take (i := 23) (v := ?_) rfl (by as_aux_lemma => kernel_rfl) (by as_aux_lemma => kernel_rfl) (by as_aux_lemma => kernel_rfl) (fun _ _ _ h => h) (Or.inl ⟨by as_aux_lemma => rfl, ?yw23⟩) (by assumption) ?qw23
        case yw23 => (intro wz hSw; (try dsimp only at hSw); go_simp <;> with_reducible rfl)
        try simp only [Act.put, List.getElem_toArray, List.getElem_cons_zero, List.getElem_cons_succ, List.setIfInBounds_toArray, List.set_cons_zero, List.set_cons_succ]
        refine wpAnyH_take (i := 24) (v := ?_) rfl (by as_aux_lemma => kernel_rfl) (by as_aux_lemma => kernel_rfl) (by as_aux_lemma => kernel_rfl) (fun _ _ _ h => h) (Or.inl ⟨by as_aux_lemma => rfl, ?yw24⟩) (by assumption) ?qw24
        case yw24 => (intro wz hSw; (try dsimp only at hSw); go_simp <;> with_reducible rfl)
        try simp only [Act.put, List.getElem_toArray, List.getElem_cons_zero, List.getElem_cons_succ, List.setIfInBounds_toArray, List.set_cons_zero, List.set_cons_succ]
        refine wpAnyH_take (i := 26) (v := ?_) rfl (by as_aux_lemma => kernel_rfl) (by as_aux_lemma => kernel_rfl) (by as_aux_lemma => kernel_rfl) (fun _ _ _ h => h) (Or.inl ⟨by as_aux_lemma => rfl, ?yw26⟩) (by assumption) ?qw26
        case yw26 => (intro wz hSw; (try dsimp only at hSw); go_simp <;> with_reducible rfl)
        try simp only [Act.put, List.getElem_toArray, List.getElem_cons_zero, List.getElem_cons_succ, List.setIfInBounds_toArray, List.set_cons_zero, List.set_cons_succ]
        refine wpAnyH_ready (rs := [25]) (by as_aux_lemma => kernel_rfl) (by simp) ?_
        refine AllReadyH.cons rfl (fun K hK => ?_) AllReadyH.nil
        go_simp
        refine (HAR.out _ H24.out).mono ?_
        intro e u25 hp
        obtain ⟨x25, he, hx, hfo, H25, hb⟩ := pl_arcs H24.out (HPL.out) hp
        subst he
        have F25 : Hid (Arcs 0 u25 x25 (P)) := Lib.hid hx
        have hb25 := Lib.hid hb
        clear hp hx hb hfo
        refine hK.out _ _ (HCD.out _ H25.out) (fun hHeld25 => ?_)
        clear hK K
        try simp only [Act.put, List.getElem_toArray, List.getElem_cons_zero, List.getElem_cons_succ, List.setIfInBounds_toArray, List.set_cons_zero, List.set_cons_succ]
        refine wpAnyH_ready (rs := [27]) (by as_aux_lemma => kernel_rfl) (by simp) ?_
        refine AllReadyH.cons rfl (fun K hK => ?_) AllReadyH.nil
        go_simp
        refine (pl_sameA H25.out F25.out (HVP.out _ H25.out)).mono ?_
        rintro e u26 ⟨rfl, H26⟩
        refine hK.out _ _ (HCD.out _ H26.out) (fun hHeld26 => ?_)
        clear hK K
        try simp only [Act.put, List.getElem_toArray, List.getElem_cons_zero, List.getElem_cons_succ, List.setIfInBounds_toArray, List.set_cons_zero, List.set_cons_succ]
        refine wpAnyH_take (i := 28) (v := ?_) rfl (by as_aux_lemma => kernel_rfl) (by as_aux_lemma => kernel_rfl) (by as_aux_lemma => kernel_rfl) (fun _ _ _ h => h) (Or.inl ⟨by as_aux_lemma => rfl, ?yw28⟩) (by assumption) ?qw28
        case yw28 => (intro wz hSw; (try dsimp only at hSw); go_simp <;> with_reducible rfl)
        try simp only [Act.put, List.getElem_toArray, List.getElem_cons_zero, List.getElem_cons_succ, List.setIfInBounds_toArray, List.set_cons_zero, List.set_cons_succ]
        refine wpAnyH_take (i := 29) (v := ?_) rfl (by as_aux_lemma => kernel_rfl) (by as_aux_lemma => kernel_rfl) (by as_aux_lemma => kernel_rfl) (fun _ _ _ h => h) (Or.inl ⟨by as_aux_lemma => rfl, ?yw29⟩) (by assumption) ?qw29
        case yw29 => (intro wz hSw; (try dsimp only at hSw); go_simp <;> with_reducible rfl)
        try simp only [Act.put, List.getElem_toArray, List.getElem_cons_zero, List.getElem_cons_succ, List.setIfInBounds_toArray, List.set_cons_zero, List.set_cons_succ]
        refine wpAnyH_take (i := 30) (v := ?_) rfl (by as_aux_lemma => kernel_rfl) (by as_aux_lemma => kernel_rfl) (by as_aux_lemma => kernel_rfl) (fun _ _ _ h => h) (Or.inl ⟨by as_aux_lemma => rfl, ?yw30⟩) (by assumption) ?qw30
        case yw30 => (intro wz hSw; (try dsimp only at hSw); go_simp <;> with_reducible rfl)
        try simp only [Act.put, List.getElem_toArray, List.getElem_cons_zero, List.getElem_cons_succ, List.setIfInBounds_toArray, List.set_cons_zero, List.set_cons_succ]
        refine wpAnyH_take (i := 31) (v := ?_) rfl (by as_aux_lemma => kernel_rfl) (by as_aux_lemma => kernel_rfl) (by as_aux_lemma => kernel_rfl) (fun _ _ _ h => h) (Or.inl ⟨by as_aux_lemma => rfl, ?yw31⟩) (by assumption) ?qw31
        case yw31 => (intro wz hSw; (try dsimp only at hSw); go_simp <;> with_reducible rfl)
        try simp only [Act.put, List.getElem_toArray, List.getElem_cons_zero, List.getElem_cons_succ, List.setIfInBounds_toArray, List.set_cons_zero, List.set_cons_succ]
        refine wpAnyH_take (i := 32) (v := ?_) rfl (by as_aux_lemma => kernel_rfl) (by as_aux_lemma => kernel_rfl) (by as_aux_lemma => kernel_rfl) (fun _ _ _ h => h) (Or.inl ⟨by as_aux_lemma => rfl, ?yw32⟩) (by assumption) ?qw32
        case yw32 => (intro wz hSw; (try dsimp only at hSw); go_simp <;> with_reducible rfl)
        try simp only [Act.put, List.getElem_toArray, List.getElem_cons_zero, List.getElem_cons_succ, List.setIfInBounds_toArray, List.set_cons_zero, List.set_cons_succ]
        refine wpAnyH_take (i := 33) (v := ?_) rfl (by as_aux_lemma => kernel_rfl) (by as_aux_lemma => kernel_rfl) (by as_aux_lemma => kernel_rfl) (fun _ _ _ h => h) (Or.inl ⟨by as_aux_lemma => rfl, ?yw33⟩) (by assumption) ?qw33
        case yw33 => (intro wz hSw; (try dsimp only at hSw); go_simp <;> with_reducible rfl)
        try simp only [Act.put, List.getElem_toArray, List.getElem_cons_zero, List.getElem_cons_succ, List.setIfInBounds_toArray, List.set_cons_zero, List.set_cons_succ]
        refine wpAnyH_take (i := 34) (v := ?_) rfl (by as_aux_lemma => kernel_rfl) (by as_aux_lemma => kernel_rfl) (by as_aux_lemma => kernel_rfl) (fun _ _ _ h => h) (Or.inl ⟨by as_aux_lemma => rfl, ?yw34⟩) (by assumption) ?qw34
        case yw34 => (intro wz hSw; (try dsimp only at hSw); go_simp <;> with_reducible rfl)
        try simp only [Act.put, List.getElem_toArray, List.getElem_cons_zero, List.getElem_cons_succ, List.setIfInBounds_toArray, List.set_cons_zero, List.set_cons_succ]
        refine wpAnyH_take (i := 35) (v := ?_) rfl (by as_aux_lemma => kernel_rfl) (by as_aux_lemma => kernel_rfl) (by as_aux_lemma => kernel_rfl) (fun _ _ _ h => h) (Or.inl ⟨by as_aux_lemma => rfl, ?yw35⟩) (by assumption) ?qw35
        case yw35 => (intro wz hSw; (try dsimp only at hSw); go_simp <;> with_reducible rfl)
        try simp only [Act.put, List.getElem_toArray, List.getElem_cons_zero, List.getElem_cons_succ, List.setIfInBounds_toArray, List.set_cons_zero, List.set_cons_succ]
        refine wpAnyH_take (i := 37) (v := ?_) rfl (by as_aux_lemma => kernel_rfl) (by as_aux_lemma => kernel_rfl) (by as_aux_lemma => kernel_rfl) (fun _ _ _ h => h) (Or.inl ⟨by as_aux_lemma => rfl, ?yw37⟩) (by assumption) ?qw37
        case yw37 => (intro wz hSw; (try dsimp only at hSw); go_simp <;> with_reducible rfl)
        try simp only [Act.put, List.getElem_toArray, List.getElem_cons_zero, List.getElem_cons_succ, List.setIfInBounds_toArray, List.set_cons_zero, List.set_cons_succ]
        refine wpAnyH_take (i := 38) (v := ?_) rfl (by as_aux_lemma => kernel_rfl) (by as_aux_lemma => kernel_rfl) (by as_aux_lemma => kernel_rfl) (fun _ _ _ h => h) (Or.inl ⟨by as_aux_lemma => rfl, ?yw38⟩) (by assumption) ?qw38
        case yw38 => (intro wz hSw; (try dsimp only at hSw); go_simp <;> with_reducible rfl)
        try simp only [Act.put, List.getElem_toArray, List.getElem_cons_zero, List.getElem_cons_succ, List.setIfInBounds_toArray, List.set_cons_zero, List.set_cons_succ]
        refine wpAnyH_take (i := 39) (v := ?_) rfl (by as_aux_lemma => kernel_rfl) (by as_aux_lemma => kernel_rfl) (by as_aux_lemma => kernel_rfl) (fun _ _ _ h => h) (Or.inl ⟨by as_aux_lemma => rfl, ?yw39⟩) (by assumption) ?qw39
        case yw39 => (intro wz hSw; (try dsimp only at hSw); go_simp <;> with_reducible rfl)
        try simp only [Act.put, List.getElem_toArray, List.getElem_cons_zero, List.getElem_cons_succ, List.setIfInBounds_toArray, List.set_cons_zero, List.set_cons_succ]
        refine wpAnyH_take (i := 40) (v := ?_) rfl (by as_aux_lemma => kernel_rfl) (by as_aux_lemma => kernel_rfl) (by as_aux_lemma => kernel_rfl) (fun _ _ _ h => h) (Or.inl ⟨by as_aux_lemma => rfl, ?yw40⟩) (by assumption) ?qw40
        case yw40 => (intro wz hSw; (try dsimp only at hSw); go_simp <;> with_reducible rfl)
        try simp only [Act.put, List.getElem_toArray, List.getElem_cons_zero, List.getElem_cons_succ, List.setIfInBounds_toArray, List.set_cons_zero, List.set_cons_succ]
        refine wpAnyH_ready (rs := [36]) (by as_aux_lemma => kernel_rfl) (by simp) ?_
        refine AllReadyH.cons rfl (fun K hK => ?_) AllReadyH.nil
        go_simp
        refine (HO.out _ H26.out).mono ?_
        intro e u27 hp
        obtain ⟨x36, he, hx, hfo, H27, hb⟩ := pl_arcs H26.out HFL.out hp
        subst he
        have F36 : Hid (Arcs 0 u27 x36 (P.filter fun y : Arc => y.fr == x1)) := Lib.hid hx
        have hb27 := Lib.hid hb
        clear hp hx hb hfo
        refine hK.out _ _ (HCD.out _ H27.out) (fun hHeld27 => ?_)
        clear hK K
        try simp only [Act.put, List.getElem_toArray, List.getElem_cons_zero, List.getElem_cons_succ, List.setIfInBounds_toArray, List.set_cons_zero, List.set_cons_succ]
        refine wpAnyH_ready (rs := [41]) (by as_aux_lemma => kernel_rfl) (by simp) ?_
        refine AllReadyH.cons rfl (fun K hK => ?_) AllReadyH.nil
        go_simp
        refine (HRO.out _ H27.out).mono ?_
        intro e u28 hp
        obtain ⟨x41, he, hx, hfo, H28, hb⟩ := pl_refA H27.out (HFL.out) hp
        subst he
        have F41 : Hid (Arcs 0 u28 x41 (P.filter fun y : Arc => y.fr == x1)) := Lib.hid hx
        have hb28 := Lib.hid hb
        clear hp hx hb hfo
        have F36 := Lib.hid (F36.out.below hb28.out)
        refine hK.out _ _ (HCD.out _ H28.out) (fun hHeld28 => ?_)
        clear hK K
        try simp only [Act.put, List.getElem_toArray, List.getElem_cons_zero, List.getElem_cons_succ, List.setIfInBounds_toArray, List.set_cons_zero, List.set_cons_succ]
        refine wpAnyH_ready (rs := [42]) (by as_aux_lemma => kernel_rfl) (by simp) ?_
        refine AllReadyH.cons rfl (fun K hK => ?_) AllReadyH.nil
        go_simp
        refine (pl_sameA H28.out F36.out F41.out).mono ?_
        rintro e u29 ⟨rfl, H29⟩
        refine hK.out _ _ (HCD.out _ H29.out) (fun hHeld29 => ?_)
        clear hK K
        try simp only [Act.put, List.getElem_toArray, List.getElem_cons_zero, List.getElem_cons_succ, List.setIfInBounds_toArray, List.set_cons_zero, List.set_cons_succ]
        refine wpAnyH_take (i := 43) (v := ?_) rfl (by as_aux_lemma => kernel_rfl) (by as_aux_lemma => kernel_rfl) (by as_aux_lemma => kernel_rfl) (fun _ _ _ h => h) (Or.inl ⟨by as_aux_lemma => rfl, ?yw43⟩) (by assumption) ?qw43
        case yw43 => (intro wz hSw; (try dsimp only at hSw); go_simp <;> with_reducible rfl)
        try simp only [Act.put, List.getElem_toArray, List.getElem_cons_zero, List.getElem_cons_succ, List.setIfInBounds_toArray, List.set_cons_zero, List.set_cons_succ]
        refine wpAnyH_take (i := 44) (v := ?_) rfl (by as_aux_lemma => kernel_rfl) (by as_aux_lemma => kernel_rfl) (by as_aux_lemma => kernel_rfl) (fun _ _ _ h => h) (Or.inl ⟨by as_aux_lemma => rfl, ?yw44⟩) (by assumption) ?qw44
        case yw44 => (intro wz hSw; (try dsimp only at hSw); go_simp <;> with_reducible rfl)
        try simp only [Act.put, List.getElem_toArray, List.getElem_cons_zero, List.getElem_cons_succ, List.setIfInBounds_toArray, List.set_cons_zero, List.set_cons_succ]
        refine wpAnyH_take (i := 45) (v := ?_) rfl (by as_aux_lemma => kernel_rfl) (by as_aux_lemma => kernel_rfl) (by as_aux_lemma => kernel_rfl) (fun _ _ _ h => h) (Or.inl ⟨by as_aux_lemma => rfl, ?yw45⟩) (by assumption) ?qw45
        case yw45 => (intro wz hSw; (try dsimp only at hSw); go_simp <;> with_reducible rfl)
        try simp only [Act.put, List.getElem_toArray, List.getElem_cons_zero, List.getElem_cons_succ, List.setIfInBounds_toArray, List.set_cons_zero, List.set_cons_succ]
        refine wpAnyH_take (i := 46) (v := ?_) rfl (by as_aux_lemma => kernel_rfl) (by as_aux_lemma => kernel_rfl) (by as_aux_lemma => kernel_rfl) (fun _ _ _ h => h) (Or.inl ⟨by as_aux_lemma => rfl, ?yw46⟩) (by assumption) ?qw46
        case yw46 => (intro wz hSw; (try dsimp only at hSw); go_simp <;> with_reducible rfl)
        try simp only [Act.put, List.getElem_toArray, List.getElem_cons_zero, List.getElem_cons_succ, List.setIfInBounds_toArray, List.set_cons_zero, List.set_cons_succ]
        refine wpAnyH_take (i := 47) (v := ?_) rfl (by as_aux_lemma => kernel_rfl) (by as_aux_lemma => kernel_rfl) (by as_aux_lemma => kernel_rfl) (fun _ _ _ h => h) (Or.inl ⟨by as_aux_lemma => rfl, ?yw47⟩) (by assumption) ?qw47
        case yw47 => (intro wz hSw; (try dsimp only at hSw); go_simp <;> with_reducible rfl)
        try simp only [Act.put, List.getElem_toArray, List.getElem_cons_zero, List.getElem_cons_succ, List.setIfInBounds_toArray, List.set_cons_zero, List.set_cons_succ]
        refine wpAnyH_take (i := 48) (v := ?_) rfl (by as_aux_lemma => kernel_rfl) (by as_aux_lemma => kernel_rfl) (by as_aux_lemma => kernel_rfl) (fun _ _ _ h => h) (Or.inl ⟨by as_aux_lemma => rfl, ?yw48⟩) (by assumption) ?qw48
        case yw48 => (intro wz hSw; (try dsimp only at hSw); go_simp <;> with_reducible rfl)
        try simp only [Act.put, List.getElem_toArray, List.getElem_cons_zero, List.getElem_cons_succ, List.setIfInBounds_toArray, List.set_cons_zero, List.set_cons_succ]
        refine wpAnyH_take (i := 49) (v := ?_) rfl (by as_aux_lemma => kernel_rfl) (by as_aux_lemma => kernel_rfl) (by as_aux_lemma => kernel_rfl) (fun _ _ _ h => h) (Or.inl ⟨by as_aux_lemma => rfl, ?yw49⟩) (by assumption) ?qw49
        case yw49 => (intro wz hSw; (try dsimp only at hSw); go_simp <;> with_reducible rfl)
        try simp only [Act.put, List.getElem_toArray, List.getElem_cons_zero, List.getElem_cons_succ, List.setIfInBounds_toArray, List.set_cons_zero, List.set_cons_succ]
        refine wpAnyH_take (i := 50) (v := ?_) rfl (by as_aux_lemma => kernel_rfl) (by as_aux_lemma => kernel_rfl) (by as_aux_lemma => kernel_rfl) (fun _ _ _ h => h) (Or.inl ⟨by as_aux_lemma => rfl, ?yw50⟩) (by assumption) ?qw50
        case yw50 => (intro wz hSw; (try dsimp only at hSw); go_simp <;> with_reducible rfl)
        try simp only [Act.put, List.getElem_toArray, List.getElem_cons_zero, List.getElem_cons_succ, List.setIfInBounds_toArray, List.set_cons_zero, List.set_cons_succ]
        refine wpAnyH_take (i := 52) (v := ?_) rfl (by as_aux_lemma => kernel_rfl) (by as_aux_lemma => kernel_rfl) (by as_aux_lemma => kernel_rfl) (fun _ _ _ h => h) (Or.inl ⟨by as_aux_lemma => rfl, ?yw52⟩) (by assumption) ?qw52
        case yw52 => (intro wz hSw; (try dsimp only at hSw); go_simp <;> with_reducible rfl)
        try simp only [Act.put, List.getElem_toArray, List.getElem_cons_zero, List.getElem_cons_succ, List.setIfInBounds_toArray, List.set_cons_zero, List.set_cons_succ]
        refine wpAnyH_take (i := 53) (v := ?_) rfl (by as_aux_lemma => kernel_rfl) (by as_aux_lemma => kernel_rfl) (by as_aux_lemma => kernel_rfl) (fun _ _ _ h => h) (Or.inl ⟨by as_aux_lemma => rfl, ?yw53⟩) (by assumption) ?qw53
        case yw53 => (intro wz hSw; (try dsimp only at hSw); go_simp <;> with_reducible rfl)
        try simp only [Act.put, List.getElem_toArray, List.getElem_cons_zero, List.getElem_cons_succ, List.setIfInBounds_toArray, List.set_cons_zero, List.set_cons_succ]
        refine wpAnyH_take (i := 54) (v := ?_) rfl (by as_aux_lemma => kernel_rfl) (by as_aux_lemma => kernel_rfl) (by as_aux_lemma => kernel_rfl) (fun _ _ _ h => h) (Or.inl ⟨by as_aux_lemma => rfl, ?yw54⟩) (by assumption) ?qw54
        case yw54 => (intro wz hSw; (try dsimp only at hSw); go_simp <;> with_reducible rfl)
        try simp only [Act.put, List.getElem_toArray, List.getElem_cons_zero, List.getElem_cons_succ, List.setIfInBounds_toArray, List.set_cons_zero, List.set_cons_succ]
        refine wpAnyH_take (i := 55) (v := ?_) rfl (by as_aux_lemma => kernel_rfl) (by as_aux_lemma => kernel_rfl) (by as_aux_lemma => kernel_rfl) (fun _ _ _ h => h) (Or.inl ⟨by as_aux_lemma => rfl, ?yw55⟩) (by assumption) ?qw55
        case yw55 => (intro wz hSw; (try dsimp only at hSw); go_simp <;> with_reducible rfl)
        try simp only [Act.put, List.getElem_toArray, List.getElem_cons_zero, List.getElem_cons_succ, List.setIfInBounds_toArray, List.set_cons_zero, List.set_cons_succ]
        refine wpAnyH_ready (rs := [51]) (by as_aux_lemma => kernel_rfl) (by simp) ?_
        refine AllReadyH.cons rfl (fun K hK => ?_) AllReadyH.nil
        go_simp
        refine (HNX.out _ H29.out).mono ?_
        intro e u30 hp
        obtain ⟨x51, he, hx, hfo, H30, hb⟩ := pl_nums H29.out (HSL.out _ _) hp
        subst he
        have F51 : Hid (Lst.Ints 0 u30 x51 (sideO P x1 false)) := Lib.hid hx
        have hb30 := Lib.hid hb
        clear hp hx hb hfo
        refine hK.out _ _ (HCD.out _ H30.out) (fun hHeld30 => ?_)
        clear hK K
        try simp only [Act.put, List.getElem_toArray, List.getElem_cons_zero, List.getElem_cons_succ, List.setIfInBounds_toArray, List.set_cons_zero, List.set_cons_succ]
        refine wpAnyH_ready (rs := [56]) (by as_aux_lemma => kernel_rfl) (by simp) ?_
        refine AllReadyH.cons rfl (fun K hK => ?_) AllReadyH.nil
        go_simp
        refine (HRN.out _ H30.out).mono ?_
        intro e u31 hp
        obtain ⟨x56, he, hx, hfo, H31, hb⟩ := pl_ref H30.out (HSL.out _ _) hp
        subst he
        have F56 : Hid (Lst.Ints 0 u31 x56 (sideO P x1 false)) := Lib.hid hx
        have hb31 := Lib.hid hb
        clear hp hx hb hfo
        have F51 := Lib.hid (F51.out.below hb31.out)
        refine hK.out _ _ (HCD.out _ H31.out) (fun hHeld31 => ?_)
        clear hK K
        try simp only [Act.put, List.getElem_toArray, List.getElem_cons_zero, List.getElem_cons_succ, List.setIfInBounds_toArray, List.set_cons_zero, List.set_cons_succ]
        refine wpAnyH_ready (rs := [57]) (by as_aux_lemma => kernel_rfl) (by simp) ?_
        refine AllReadyH.cons rfl (fun K hK => ?_) AllReadyH.nil
        go_simp
        refine (pl_same H31.out F51.out F56.out).mono ?_
        rintro e u32 ⟨rfl, H32⟩
        refine hK.out _ _ (HCD.out _ H32.out) (fun hHeld32 => ?_)
        clear hK K
        try simp only [Act.put, List.getElem_toArray, List.getElem_cons_zero, List.getElem_cons_succ, List.setIfInBounds_toArray, List.set_cons_zero, List.set_cons_succ]
        refine wpAnyH_take (i := 58) (v := ?_) rfl (by as_aux_lemma => kernel_rfl) (by as_aux_lemma => kernel_rfl) (by as_aux_lemma => kernel_rfl) (fun _ _ _ h => h) (Or.inl ⟨by as_aux_lemma => rfl, ?yw58⟩) (by assumption) ?qw58
        case yw58 => (intro wz hSw; (try dsimp only at hSw); go_simp <;> with_reducible rfl)
        try simp only [Act.put, List.getElem_toArray, List.getElem_cons_zero, List.getElem_cons_succ, List.setIfInBounds_toArray, List.set_cons_zero, List.set_cons_succ]
        refine wpAnyH_take (i := 59) (v := ?_) rfl (by as_aux_lemma => kernel_rfl) (by as_aux_lemma => kernel_rfl) (by as_aux_lemma => kernel_rfl) (fun _ _ _ h => h) (Or.inl ⟨by as_aux_lemma => rfl, ?yw59⟩) (by assumption) ?qw59
        case yw59 => (intro wz hSw; (try dsimp only at hSw); go_simp <;> with_reducible rfl)
        try simp only [Act.put, List.getElem_toArray, List.getElem_cons_zero, List.getElem_cons_succ, List.setIfInBounds_toArray, List.set_cons_zero, List.set_cons_succ]
        refine wpAnyH_take (i := 60) (v := ?_) rfl (by as_aux_lemma => kernel_rfl) (by as_aux_lemma => kernel_rfl) (by as_aux_lemma => kernel_rfl) (fun _ _ _ h => h) (Or.inl ⟨by as_aux_lemma => rfl, ?yw60⟩) (by assumption) ?qw60
        case yw60 => (intro wz hSw; (try dsimp only at hSw); go_simp <;> with_reducible rfl)
        try simp only [Act.put, List.getElem_toArray, List.getElem_cons_zero, List.getElem_cons_succ, List.setIfInBounds_toArray, List.set_cons_zero, List.set_cons_succ]
        refine wpAnyH_take (i := 61) (v := ?_) rfl (by as_aux_lemma => kernel_rfl) (by as_aux_lemma => kernel_rfl) (by as_aux_lemma => kernel_rfl) (fun _ _ _ h => h) (Or.inl ⟨by as_aux_lemma => rfl, ?yw61⟩) (by assumption) ?qw61
        case yw61 => (intro wz hSw; (try dsimp only at hSw); go_simp <;> with_reducible rfl)
        try simp only [Act.put, List.getElem_toArray, List.getElem_cons_zero, List.getElem_cons_succ, List.setIfInBounds_toArray, List.set_cons_zero, List.set_cons_succ]
        refine wpAnyH_take (i := 62) (v := ?_) rfl (by as_aux_lemma => kernel_rfl) (by as_aux_lemma => kernel_rfl) (by as_aux_lemma => kernel_rfl) (fun _ _ _ h => h) (Or.inl ⟨by as_aux_lemma => rfl, ?yw62⟩) (by assumption) ?qw62
        case yw62 => (intro wz hSw; (try dsimp only at hSw); go_simp <;> with_reducible rfl)
        try simp only [Act.put, List.getElem_toArray, List.getElem_cons_zero, List.getElem_cons_succ, List.setIfInBounds_toArray, List.set_cons_zero, List.set_cons_succ]
        refine wpAnyH_take (i := 63) (v := ?_) rfl (by as_aux_lemma => kernel_rfl) (by as_aux_lemma => kernel_rfl) (by as_aux_lemma => kernel_rfl) (fun _ _ _ h => h) (Or.inl ⟨by as_aux_lemma => rfl, ?yw63⟩) (by assumption) ?qw63
        case yw63 => (intro wz hSw; (try dsimp only at hSw); go_simp <;> with_reducible rfl)
        try simp only [Act.put, List.getElem_toArray, List.getElem_cons_zero, List.getElem_cons_succ, List.setIfInBounds_toArray, List.set_cons_zero, List.set_cons_succ]
        refine wpAnyH_take (i := 64) (v := ?_) rfl (by as_aux_lemma => kernel_rfl) (by as_aux_lemma => kernel_rfl) (by as_aux_lemma => kernel_rfl) (fun _ _ _ h => h) (Or.inl ⟨by as_aux_lemma => rfl, ?yw64⟩) (by assumption) ?qw64
        case yw64 => (intro wz hSw; (try dsimp only at hSw); go_simp <;> with_reducible rfl)
        try simp only [Act.put, List.getElem_toArray, List.getElem_cons_zero, List.getElem_cons_succ, List.setIfInBounds_toArray, List.set_cons_zero, List.set_cons_succ]
        refine wpAnyH_take (i := 65) (v := ?_) rfl (by as_aux_lemma => kernel_rfl) (by as_aux_lemma => kernel_rfl) (by as_aux_lemma => kernel_rfl) (fun _ _ _ h => h) (Or.inl ⟨by as_aux_lemma => rfl, ?yw65⟩) (by assumption) ?qw65
        case yw65 => (intro wz hSw; (try dsimp only at hSw); go_simp <;> with_reducible rfl)
        try simp only [Act.put, List.getElem_toArray, List.getElem_cons_zero, List.getElem_cons_succ, List.setIfInBounds_toArray, List.set_cons_zero, List.set_cons_succ]
        refine wpAnyH_take (i := 67) (v := ?_) rfl (by as_aux_lemma => kernel_rfl) (by as_aux_lemma => kernel_rfl) (by as_aux_lemma => kernel_rfl) (fun _ _ _ h => h) (Or.inl ⟨by as_aux_lemma => rfl, ?yw67⟩) (by assumption) ?qw67
        case yw67 => (intro wz hSw; (try dsimp only at hSw); go_simp <;> with_reducible rfl)
        try simp only [Act.put, List.getElem_toArray, List.getElem_cons_zero, List.getElem_cons_succ, List.setIfInBounds_toArray, List.set_cons_zero, List.set_cons_succ]
        refine wpAnyH_take (i := 68) (v := ?_) rfl (by as_aux_lemma => kernel_rfl) (by as_aux_lemma => kernel_rfl) (by as_aux_lemma => kernel_rfl) (fun _ _ _ h => h) (Or.inl ⟨by as_aux_lemma => rfl, ?yw68⟩) (by assumption) ?qw68
        case yw68 => (intro wz hSw; (try dsimp only at hSw); go_simp <;> with_reducible rfl)
        try simp only [Act.put, List.getElem_toArray, List.getElem_cons_zero, List.getElem_cons_succ, List.setIfInBounds_toArray, List.set_cons_zero, List.set_cons_succ]
        refine wpAnyH_take (i := 69) (v := ?_) rfl (by as_aux_lemma => kernel_rfl) (by as_aux_lemma => kernel_rfl) (by as_aux_lemma => kernel_rfl) (fun _ _ _ h => h) (Or.inl ⟨by as_aux_lemma => rfl, ?yw69⟩) (by assumption) ?qw69
        case yw69 => (intro wz hSw; (try dsimp only at hSw); go_simp <;> with_reducible rfl)
        try simp only [Act.put, List.getElem_toArray, List.getElem_cons_zero, List.getElem_cons_succ, List.setIfInBounds_toArray, List.set_cons_zero, List.set_cons_succ]
        refine wpAnyH_take (i := 70) (v := ?_) rfl (by as_aux_lemma => kernel_rfl) (by as_aux_lemma => kernel_rfl) (by as_aux_lemma => kernel_rfl) (fun _ _ _ h => h) (Or.inl ⟨by as_aux_lemma => rfl, ?yw70⟩) (by assumption) ?qw70
        case yw70 => (intro wz hSw; (try dsimp only at hSw); go_simp <;> with_reducible rfl)
        try simp only [Act.put, List.getElem_toArray, List.getElem_cons_zero, List.getElem_cons_succ, List.setIfInBounds_toArray, List.set_cons_zero, List.set_cons_succ]
        refine wpAnyH_ready (rs := [66]) (by as_aux_lemma => kernel_rfl) (by simp) ?_
        refine AllReadyH.cons rfl (fun K hK => ?_) AllReadyH.nil
        go_simp
        refine (HPV.out _ H32.out).mono ?_
        intro e u33 hp
        obtain ⟨x66, he, hx, hfo, H33, hb⟩ := pl_nums H32.out (HSL.out _ _) hp
        subst he
        have F66 : Hid (Lst.Ints 0 u33 x66 (sideO P x2 true)) := Lib.hid hx
        have hb33 := Lib.hid hb
        clear hp hx hb hfo
        refine hK.out _ _ (HCD.out _ H33.out) (fun hHeld33 => ?_)
        clear hK K
        try simp only [Act.put, List.getElem_toArray, List.getElem_cons_zero, List.getElem_cons_succ, List.setIfInBounds_toArray, List.set_cons_zero, List.set_cons_succ]
        refine wpAnyH_ready (rs := [71]) (by as_aux_lemma => kernel_rfl) (by simp) ?_
        refine AllReadyH.cons rfl (fun K hK => ?_) AllReadyH.nil
        go_simp
        refine (HRP.out _ H33.out).mono ?_
        intro e u34 hp
        obtain ⟨x71, he, hx, hfo, H34, hb⟩ := pl_ref H33.out (HSL.out _ _) hp
        subst he
        have F71 : Hid (Lst.Ints 0 u34 x71 (sideO P x2 true)) := Lib.hid hx
        have hb34 := Lib.hid hb
        clear hp hx hb hfo
        have F66 := Lib.hid (F66.out.below hb34.out)
        refine hK.out _ _ (HCD.out _ H34.out) (fun hHeld34 => ?_)
        clear hK K
        try simp only [Act.put, List.getElem_toArray, List.getElem_cons_zero, List.getElem_cons_succ, List.setIfInBounds_toArray, List.set_cons_zero, List.set_cons_succ]
        refine wpAnyH_ready (rs := [72]) (by as_aux_lemma => kernel_rfl) (by simp) ?_
        refine AllReadyH.cons rfl (fun K hK => ?_) AllReadyH.nil
        go_simp
        refine (pl_same H34.out F66.out F71.out).mono ?_
        rintro e u35 ⟨rfl, H35⟩
        refine hK.out _ _ (HCD.out _ H35.out) (fun hHeld35 => ?_)
        clear hK K
        try simp only [Act.put, List.getElem_toArray, List.getElem_cons_zero, List.getElem_cons_succ, List.setIfInBounds_toArray, List.set_cons_zero, List.set_cons_succ]
        refine wpAnyH_take (i := 73) (v := ?_) rfl (by as_aux_lemma => kernel_rfl) (by as_aux_lemma => kernel_rfl) (by as_aux_lemma => kernel_rfl) (fun _ _ _ h => h) (Or.inl ⟨by as_aux_lemma => rfl, ?yw73⟩) (by assumption) ?qw73
        case yw73 => (intro wz hSw; (try dsimp only at hSw); go_simp <;> with_reducible rfl)
        try simp only [Act.put, List.getElem_toArray, List.getElem_cons_zero, List.getElem_cons_succ, List.setIfInBounds_toArray, List.set_cons_zero, List.set_cons_succ]
        refine wpAnyH_take (i := 74) (v := ?_) rfl (by as_aux_lemma => kernel_rfl) (by as_aux_lemma => kernel_rfl) (by as_aux_lemma => kernel_rfl) (fun _ _ _ h => h) (Or.inl ⟨by as_aux_lemma => rfl, ?yw74⟩) (by assumption) ?qw74
        case yw74 => (intro wz hSw; (try dsimp only at hSw); go_simp <;> with_reducible rfl)
        try simp only [Act.put, List.getElem_toArray, List.getElem_cons_zero, List.getElem_cons_succ, List.setIfInBounds_toArray, List.set_cons_zero, List.set_cons_succ]
        refine wpAnyH_done (by as_aux_lemma => kernel_rfl) ?_ _
        have HE : Hid (PG w w u35 b N nbs (.slice p9 Q c9) q' q') := Lib.hid (by have := (H6.out.1.below H35.out).1; rwa [← HQ.out] at this)
        have hq2' : q'.length ≤ k + 1 := by rw [← HQ.out]; exact hq2
        clear HND HLN HHS HIN HAR HO HNX HPV HVP HRO HRN HRP HCD HSL HFL HPL
        go_wp2_with fail
        go_roundw
        case rel => exact ⟨k + 1, _, q', by go_num, rfl, hlt, hq2', HE⟩
        case measure => simp [intOf]; omega
    · have hke : k = M := by omega
      subst hke
      have HB : Hid (Below w.heap.size w wr) := Lib.hid HS.out.2.2.2
      clear HS HT HM hlt hk
      go_wp2_with fail
      refine (HL.out wr).mono ?_
      rintro e w2 ⟨rfl, hb⟩
      have HB2 := Lib.hid (HB.out.trans (hb.mono HB.out.size))
      clear hb HL HB
      go_wp2
      go_ret
      exact ⟨rfl, HB2.out⟩
end Go.Proofs.Ytpgfkggfgkafjaa.Gr
