/-
  Closures: ClosureWay, walked. Not a statement of the seat.
-/
import Derived.Test.YtakgepdlninnhaaDoorHead21
import Derived.Test.YtakgepdlninnhaaDoorHead24
import Derived.Deep.RegionHeld3
import Derived.Deep.DeepCutAuto
namespace Go.Proofs.YtakgepdlninnhaaDoor.Cs
open Go.ChangeShapes Go.WideShapes Go.ChangeAt Go.RowKit Base F Bits Df Cl Sc Gr
set_option maxHeartbeats 16000000 in
set_option maxRecDepth 100000 in
theorem way_any {lv mv : Value} {l mo : List Pai} (n0 : Int) (w : World) (hT : TabW w) (hl : Pais 0 w lv l) (hm : Pais 0 w mv mo) : Calls Tryd.prog 4 #[.int .i64 n0, lv, mv] w (TruP w) := by
  have HLV := Lib.hid (lives_cs w hT)
  have HT := Lib.hid hT
  obtain ⟨pl, cl, rfl, hl9, hlc⟩ := hl.open_
  obtain ⟨pm, cm, rfl, hm9, hmc⟩ := hm.open_
  have HLC := Lib.hid hlc
  have HMC := Lib.hid hmc
  obtain ⟨L, hL⟩ : ∃ L, L = l.length := ⟨_, rfl⟩
  obtain ⟨Mo, hMo⟩ : ∃ L, L = mo.length := ⟨_, rfl⟩
  rw [← hL] at HLC hl9 ⊢
  rw [← hMo] at HMC hm9 ⊢
  have HLL := Lib.hid hL
  have HML := Lib.hid hMo
  clear hT hl hm hlc hmc hL hMo
  go_enter Tryd.func4, Tryd.ntmps4
  go_wp2_with fail
  refine HLV.out.mono ?_
  rintro e w1 ⟨rfl, hb1⟩
  have HB1 := Lib.hid hb1
  clear hb1 HLV
  by_cases c1 : n0 < 1
  · go_wp2
    go_ret
    exact ⟨rfl, HB1.out⟩
  by_cases c2 : 30 < n0
  · go_wp2
    go_ret
    exact ⟨rfl, HB1.out⟩
  by_cases c3 : 60 < L
  · have c3i : (60 : Int) < (L : Int) := by omega
    go_wp2
    go_ret
    exact ⟨rfl, HB1.out⟩
  by_cases c4 : 60 < Mo
  · have c4i : (60 : Int) < (Mo : Int) := by omega
    have c3i : ¬ (60 : Int) < (L : Int) := by omega
    go_wp2
    go_ret
    exact ⟨rfl, HB1.out⟩
  obtain ⟨N, rfl⟩ := Int.eq_ofNat_of_zero_le (show 0 ≤ n0 by omega)
  have hN : 1 ≤ N ∧ N ≤ 30 := by omega
  have HN := Lib.hid hN
  have c3i : ¬ (60 : Int) < (L : Int) := by omega
  have c4i : ¬ (60 : Int) < (Mo : Int) := by omega
  have HT1 := Lib.hid (HT.out.below HB1.out)
  have hr : roomC (N : Int) = N := by unfold roomC; omega
  have HNA := Lib.hid (new_q (N : Int) w1)
  have HNB := Lib.hid (fun w2 => new_q (N : Int) w2)
  rw [hr] at HNA HNB
  clear hN hr
  go_wp2_with fail
  refine HNA.out.mono ?_
  rintro e w2 ⟨ba, rfl, hqa, hb2⟩
  have HA := Lib.hid (And.intro hqa hb2)
  clear hqa hb2 HNA
  go_wp2_with fail
  refine (HNB.out w2).mono ?_
  rintro e w3 ⟨bb, rfl, hqb, hb3⟩
  obtain ⟨Ca, hCa⟩ : ∃ C, C = w2.heap.size := ⟨_, rfl⟩
  obtain ⟨Cb, hCb⟩ : ∃ C, C = w3.heap.size := ⟨_, rfl⟩
  have HI0 : Hid (WI0 w1 Ca Cb Ca ba bb N l 0 (.slice none 0 0) w3) := Lib.hid ⟨[], [], ⟨⟨_, by rw [hCa]; exact (HA.out.1 Cb).below hb3⟩, ⟨_, by rw [hCa, hCb]; exact hqb _⟩, HA.out.2.trans (hb3.mono HA.out.2.size), by rw [hCa]; exact HA.out.2.size, Nat.le_refl _, by rw [hCa, hCb]; exact hb3.size, by rw [hCb]; exact Nat.le_refl _⟩, by rw [List.take_zero]; exact .start, OwnPai.nil _ _⟩
  clear hqb hb3 HNB hCa hCb HA
  obtain ⟨Bb, hBb⟩ : ∃ B, B = Ca := ⟨_, rfl⟩
  replace HI0 : Hid (WI0 w1 Ca Cb Bb ba bb N l 0 (.slice none 0 0) w3) := Lib.hid (by rw [hBb]; exact HI0.out)
  clear hBb
  have HLO : Hid (∀ i, i < L → ∃ g o, pl = some ⟨g, o, none⟩ ∧ ∀ X, Below w1.heap.size w1 X → X.cell? ⟨g, o + i * 2, none⟩ = some (.int .i64 (l.getD i Pai.zero).k) ∧ X.cell? ⟨g, o + i * 2 + 1, none⟩ = some (.int .i64 (l.getD i Pai.zero).v)) := Lib.hid fun i hi => by
    obtain ⟨g, o, h1, _, h2, h3, h4⟩ := HLC.out i hi
    have hg1 := Nat.lt_of_lt_of_le h2 HB1.out.size
    exact ⟨g, o, h1, fun X hX => ⟨(hX.cell (p := ⟨g, _, none⟩) hg1).trans ((HB1.out.cell (p := ⟨g, _, none⟩) h2).trans h3), (hX.cell (p := ⟨g, _, none⟩) hg1).trans ((HB1.out.cell (p := ⟨g, _, none⟩) h2).trans h4)⟩⟩
  have HMO : Hid (∀ i, i < Mo → ∃ g o, pm = some ⟨g, o, none⟩ ∧ ∀ X, Below w1.heap.size w1 X → X.cell? ⟨g, o + i * 2, none⟩ = some (.int .i64 (mo.getD i Pai.zero).k) ∧ X.cell? ⟨g, o + i * 2 + 1, none⟩ = some (.int .i64 (mo.getD i Pai.zero).v)) := Lib.hid fun i hi => by
    obtain ⟨g, o, h1, _, h2, h3, h4⟩ := HMC.out i hi
    have hg1 := Nat.lt_of_lt_of_le h2 HB1.out.size
    exact ⟨g, o, h1, fun X hX => ⟨(hX.cell (p := ⟨g, _, none⟩) hg1).trans ((HB1.out.cell (p := ⟨g, _, none⟩) h2).trans h3), (hX.cell (p := ⟨g, _, none⟩) hg1).trans ((HB1.out.cell (p := ⟨g, _, none⟩) h2).trans h4)⟩⟩
  have HGL : Hid (∀ g o, 0 < L → pl = some ⟨g, o, none⟩ → ∀ X, Below w1.heap.size w1 X → g < X.heap.size) := Lib.hid fun g o hp he X hX => by
    obtain ⟨g', o', h1, _, h2, _⟩ := HLC.out 0 hp
    rw [h1] at he
    injection he with he
    injection he with he _
    have := HB1.out.size
    have := hX.size
    omega
  have HGM : Hid (∀ g o, 0 < Mo → pm = some ⟨g, o, none⟩ → ∀ X, Below w1.heap.size w1 X → g < X.heap.size) := Lib.hid fun g o hp he X hX => by
    obtain ⟨g', o', h1, _, h2, _⟩ := HMC.out 0 hp
    rw [h1] at he
    injection he with he
    injection he with he _
    have := HB1.out.size
    have := hX.size
    omega
  go_wp2_with fail
  go_loopw [9, 10] (fun s9 s10 wr => ∃ i : Nat, s10 = .int .i64 (i : Int) ∧ i ≤ 60 ∧ ∃ v, v = s9 ∧ Hid (WI0 w1 Ca Cb Bb ba bb N l i v wr)) (fun _ s10 _ => 60 - (intOf s10).toNat)
  case atStart => exact ⟨0, rfl, by omega, _, rfl, HI0⟩
  case round =>
    clear HI0
    obtain ⟨i, rfl, hi, v9, hv9, HI⟩ := hrel
    subst hv9
    by_cases hlt : i < L
    · obtain ⟨gl, ol, hpl, HCL0⟩ := HLO.out i hlt
      subst hpl
      have hli : (i : Int) < (L : Int) := by omega
      have HLT : Hid (i < l.length) := Lib.hid (by have := HLL.out; omega)
      obtain ⟨x, hx⟩ : ∃ x, x = l.getD i Pai.zero := ⟨_, rfl⟩
      rw [← hx] at HCL0
      obtain ⟨x0, x1⟩ := x
      have HCL := Lib.hid HCL0
      have HXL := Lib.hid hx.symm
      dsimp only at HCL
      clear HCL0 hx
      go_upto_region 13 with fail
      refine wp_region_held_drew (S := fun X => X.cell? ⟨gl, ol + i * 2, none⟩ = some (.int .i64 x0) ∧ X.cell? ⟨gl, ol + i * 2 + 1, none⟩ = some (.int .i64 x1)) (by kernel_rfl) (HCL.out _ (below_drewN HI.out.bel 1)) (fun hHeld0 => ?_)
      obtain ⟨U0, hU0⟩ : ∃ X, X = wr.drew := ⟨_, rfl⟩
      have HI0 : Hid (WI0 w1 Ca Cb Bb ba bb N l i v9 U0) := Lib.hid (by rw [hU0]; exact HI.out.below (below_drewN (Below.refl _ _) 1))
      rw [← hU0] at hHeld0 ⊢
      clear hU0 HI
      have HADD := Lib.hid (HI0.out.addL HT1.out HLT.out (by omega) HXL.out)
      dsimp only at HADD
      refine wpAnyH_take (i := 0) (v := ?_) rfl (by kernel_rfl) (by kernel_rfl) (by kernel_rfl) (fun _ _ _ h => h) (Or.inl ⟨by rfl, ?ycx10⟩) (by assumption) ?qcx10
      case ycx10 => (intro wz hSw; (try dsimp only at hSw); go_simp <;> with_reducible rfl)
      try simp only [Act.put, List.getElem_toArray, List.getElem_cons_zero, List.setIfInBounds_toArray, List.set_cons_zero, List.set_cons_succ]
      refine wpAnyH_take (i := 1) (v := ?_) rfl (by kernel_rfl) (by kernel_rfl) (by kernel_rfl) (fun _ _ _ h => h) (Or.inl ⟨by rfl, ?ycx11⟩) (by assumption) ?qcx11
      case ycx11 => (intro wz hSw; (try dsimp only at hSw); go_simp <;> with_reducible rfl)
      try simp only [Act.put, List.getElem_toArray, List.getElem_cons_zero, List.getElem_cons_succ, List.setIfInBounds_toArray, List.set_cons_zero, List.set_cons_succ]
      refine wpAnyH_take (i := 2) (v := ?_) rfl (by kernel_rfl) (by kernel_rfl) (by kernel_rfl) (fun _ _ _ h => h) (Or.inl ⟨by rfl, ?ycx12⟩) (by assumption) ?qcx12
      case ycx12 => (intro wz hSw; (try dsimp only at hSw); go_simp <;> with_reducible rfl)
      try simp only [Act.put, List.getElem_toArray, List.getElem_cons_zero, List.getElem_cons_succ, List.setIfInBounds_toArray, List.set_cons_zero, List.set_cons_succ]
      refine wpAnyH_take (i := 3) (v := ?_) rfl (by kernel_rfl) (by kernel_rfl) (by kernel_rfl) (fun _ _ _ h => h) (Or.inl ⟨by rfl, ?ycx13⟩) (by assumption) ?qcx13
      case ycx13 => (intro wz hSw; (try dsimp only at hSw); go_simp <;> with_reducible rfl)
      try simp only [Act.put, List.getElem_toArray, List.getElem_cons_zero, List.getElem_cons_succ, List.setIfInBounds_toArray, List.set_cons_zero, List.set_cons_succ]
      refine wpAnyH_take (i := 4) (v := ?_) rfl (by kernel_rfl) (by kernel_rfl) (by kernel_rfl) (fun _ _ _ h => h) (Or.inl ⟨by rfl, ?ycx14⟩) (by assumption) ?qcx14
      case ycx14 => (intro wz hSw; (try dsimp only at hSw); go_simp <;> with_reducible rfl)
      try simp only [Act.put, List.getElem_toArray, List.getElem_cons_zero, List.getElem_cons_succ, List.setIfInBounds_toArray, List.set_cons_zero, List.set_cons_succ]
      refine wpAnyH_take (i := 5) (v := ?_) rfl (by kernel_rfl) (by kernel_rfl) (by kernel_rfl) (fun _ _ _ h => h) (Or.inl ⟨by rfl, ?ycx15⟩) (by assumption) ?qcx15
      case ycx15 => (intro wz hSw; (try dsimp only at hSw); go_simp <;> with_reducible rfl)
      try simp only [Act.put, List.getElem_toArray, List.getElem_cons_zero, List.getElem_cons_succ, List.setIfInBounds_toArray, List.set_cons_zero, List.set_cons_succ]
      refine wpAnyH_take (i := 6) (v := ?_) rfl (by kernel_rfl) (by kernel_rfl) (by kernel_rfl) (fun _ _ _ h => h) (Or.inl ⟨by rfl, ?ycx16⟩) (by assumption) ?qcx16
      case ycx16 => (intro wz hSw; (try dsimp only at hSw); go_simp <;> with_reducible rfl)
      try simp only [Act.put, List.getElem_toArray, List.getElem_cons_zero, List.getElem_cons_succ, List.setIfInBounds_toArray, List.set_cons_zero, List.set_cons_succ]
      refine wpAnyH_take (i := 7) (v := ?_) rfl (by kernel_rfl) (by kernel_rfl) (by kernel_rfl) (fun _ _ _ h => h) (Or.inl ⟨by rfl, ?ycx17⟩) (by assumption) ?qcx17
      case ycx17 => (intro wz hSw; (try dsimp only at hSw); go_simp <;> with_reducible rfl)
      try simp only [Act.put, List.getElem_toArray, List.getElem_cons_zero, List.getElem_cons_succ, List.setIfInBounds_toArray, List.set_cons_zero, List.set_cons_succ]
      refine wpAnyH_take (i := 8) (v := ?_) rfl (by kernel_rfl) (by kernel_rfl) (by kernel_rfl) (fun _ _ _ h => h) (Or.inl ⟨by rfl, ?ycx18⟩) (by assumption) ?qcx18
      case ycx18 => (intro wz hSw; (try dsimp only at hSw); go_simp <;> with_reducible rfl)
      try simp only [Act.put, List.getElem_toArray, List.getElem_cons_zero, List.getElem_cons_succ, List.setIfInBounds_toArray, List.set_cons_zero, List.set_cons_succ]
      refine wpAnyH_take (i := 9) (v := ?_) rfl (by kernel_rfl) (by kernel_rfl) (by kernel_rfl) (fun _ _ _ h => h) (Or.inl ⟨by rfl, ?ycx19⟩) (by assumption) ?qcx19
      case ycx19 => (intro wz hSw; (try dsimp only at hSw); go_simp <;> with_reducible rfl)
      try simp only [Act.put, List.getElem_toArray, List.getElem_cons_zero, List.getElem_cons_succ, List.setIfInBounds_toArray, List.set_cons_zero, List.set_cons_succ]
      refine wpAnyH_take (i := 10) (v := ?_) rfl (by kernel_rfl) (by kernel_rfl) (by kernel_rfl) (fun _ _ _ h => h) (Or.inl ⟨by rfl, ?ycx110⟩) (by assumption) ?qcx110
      case ycx110 => (intro wz hSw; (try dsimp only at hSw); go_simp <;> with_reducible rfl)
      try simp only [Act.put, List.getElem_toArray, List.getElem_cons_zero, List.getElem_cons_succ, List.setIfInBounds_toArray, List.set_cons_zero, List.set_cons_succ]
      refine wpAnyH_ready (rs := [11]) (by kernel_rfl) (by simp) ?_
      refine AllReadyH.cons rfl (fun K hK => ?_) AllReadyH.nil
      go_simp
      refine HADD.out.mono ?_
      rintro e w5 ⟨r5, rfl, hm5⟩
      have HM := Lib.hid hm5
      clear hm5
      refine hK.out _ _ (HCL.out _ HM.out.bel) (fun hHeldcx111 => ?_)
      clear hK K
      try simp only [Act.put, List.getElem_toArray, List.getElem_cons_zero, List.getElem_cons_succ, List.setIfInBounds_toArray, List.set_cons_zero, List.set_cons_succ]
      refine wpAnyH_done (by kernel_rfl) ?_ _
      clear HADD HI0
      clear hHeld0
      by_cases hmo : i < Mo
      · obtain ⟨gm, om, hpm, HCM0⟩ := HMO.out i hmo
        subst hpm
        have hmi : (i : Int) < (Mo : Int) := by omega
        obtain ⟨y, hy⟩ : ∃ y, y = mo.getD i Pai.zero := ⟨_, rfl⟩
        rw [← hy] at HCM0
        obtain ⟨y0, y1⟩ := y
        have HCM := Lib.hid HCM0
        dsimp only at HCM
        clear HCM0 hy
        cases hin : inR N ⟨y0, y1⟩ with
        | false =>
          go_upto_region 14 with fail
          refine wp_region_held_drew (S := fun X => X.cell? ⟨gm, om + i * 2, none⟩ = some (.int .i64 y0) ∧ X.cell? ⟨gm, om + i * 2 + 1, none⟩ = some (.int .i64 y1)) (by kernel_rfl) (HCM.out _ (below_drewN HM.out.bel 1)) (fun hHeld0 => ?_)
          obtain ⟨U1, hU1⟩ : ∃ X, X = w5.drew := ⟨_, rfl⟩
          replace HM : Hid (WIM w1 Ca Cb Bb ba bb N l i v9 U1) := Lib.hid (by rw [hU1]; exact HM.out.below (below_drewN (Below.refl _ _) 1))
          rw [← hU1] at hHeld0 ⊢
          clear hU1
          have HADM := Lib.hid (HM.out.addM HT1.out (by omega) ⟨y0, y1⟩)
          rw [hin] at HADM
          dsimp only at HADM
          refine wpAnyH_take (i := 0) (v := ?_) rfl (by kernel_rfl) (by kernel_rfl) (by kernel_rfl) (fun _ _ _ h => h) (Or.inl ⟨by rfl, ?ycy20⟩) (by assumption) ?qcy20
          case ycy20 => (intro wz hSw; (try dsimp only at hSw); go_simp <;> with_reducible rfl)
          try simp only [Act.put, List.getElem_toArray, List.getElem_cons_zero, List.setIfInBounds_toArray, List.set_cons_zero, List.set_cons_succ]
          refine wpAnyH_take (i := 1) (v := ?_) rfl (by kernel_rfl) (by kernel_rfl) (by kernel_rfl) (fun _ _ _ h => h) (Or.inl ⟨by rfl, ?ycy21⟩) (by assumption) ?qcy21
          case ycy21 => (intro wz hSw; (try dsimp only at hSw); go_simp <;> with_reducible rfl)
          try simp only [Act.put, List.getElem_toArray, List.getElem_cons_zero, List.getElem_cons_succ, List.setIfInBounds_toArray, List.set_cons_zero, List.set_cons_succ]
          refine wpAnyH_take (i := 2) (v := ?_) rfl (by kernel_rfl) (by kernel_rfl) (by kernel_rfl) (fun _ _ _ h => h) (Or.inl ⟨by rfl, ?ycy22⟩) (by assumption) ?qcy22
          case ycy22 => (intro wz hSw; (try dsimp only at hSw); go_simp <;> with_reducible rfl)
          try simp only [Act.put, List.getElem_toArray, List.getElem_cons_zero, List.getElem_cons_succ, List.setIfInBounds_toArray, List.set_cons_zero, List.set_cons_succ]
          refine wpAnyH_take (i := 3) (v := ?_) rfl (by kernel_rfl) (by kernel_rfl) (by kernel_rfl) (fun _ _ _ h => h) (Or.inl ⟨by rfl, ?ycy23⟩) (by assumption) ?qcy23
          case ycy23 => (intro wz hSw; (try dsimp only at hSw); go_simp <;> with_reducible rfl)
          try simp only [Act.put, List.getElem_toArray, List.getElem_cons_zero, List.getElem_cons_succ, List.setIfInBounds_toArray, List.set_cons_zero, List.set_cons_succ]
          refine wpAnyH_take (i := 4) (v := ?_) rfl (by kernel_rfl) (by kernel_rfl) (by kernel_rfl) (fun _ _ _ h => h) (Or.inl ⟨by rfl, ?ycy24⟩) (by assumption) ?qcy24
          case ycy24 => (intro wz hSw; (try dsimp only at hSw); go_simp <;> with_reducible rfl)
          try simp only [Act.put, List.getElem_toArray, List.getElem_cons_zero, List.getElem_cons_succ, List.setIfInBounds_toArray, List.set_cons_zero, List.set_cons_succ]
          refine wpAnyH_take (i := 5) (v := ?_) rfl (by kernel_rfl) (by kernel_rfl) (by kernel_rfl) (fun _ _ _ h => h) (Or.inl ⟨by rfl, ?ycy25⟩) (by assumption) ?qcy25
          case ycy25 => (intro wz hSw; (try dsimp only at hSw); go_simp <;> with_reducible rfl)
          try simp only [Act.put, List.getElem_toArray, List.getElem_cons_zero, List.getElem_cons_succ, List.setIfInBounds_toArray, List.set_cons_zero, List.set_cons_succ]
          refine wpAnyH_take (i := 6) (v := ?_) rfl (by kernel_rfl) (by kernel_rfl) (by kernel_rfl) (fun _ _ _ h => h) (Or.inl ⟨by rfl, ?ycy26⟩) (by assumption) ?qcy26
          case ycy26 => (intro wz hSw; (try dsimp only at hSw); go_simp <;> with_reducible rfl)
          try simp only [Act.put, List.getElem_toArray, List.getElem_cons_zero, List.getElem_cons_succ, List.setIfInBounds_toArray, List.set_cons_zero, List.set_cons_succ]
          refine wpAnyH_take (i := 7) (v := ?_) rfl (by kernel_rfl) (by kernel_rfl) (by kernel_rfl) (fun _ _ _ h => h) (Or.inl ⟨by rfl, ?ycy27⟩) (by assumption) ?qcy27
          case ycy27 => (intro wz hSw; (try dsimp only at hSw); go_simp <;> with_reducible rfl)
          try simp only [Act.put, List.getElem_toArray, List.getElem_cons_zero, List.getElem_cons_succ, List.setIfInBounds_toArray, List.set_cons_zero, List.set_cons_succ]
          refine wpAnyH_take (i := 8) (v := ?_) rfl (by kernel_rfl) (by kernel_rfl) (by kernel_rfl) (fun _ _ _ h => h) (Or.inl ⟨by rfl, ?ycy28⟩) (by assumption) ?qcy28
          case ycy28 => (intro wz hSw; (try dsimp only at hSw); go_simp <;> with_reducible rfl)
          try simp only [Act.put, List.getElem_toArray, List.getElem_cons_zero, List.getElem_cons_succ, List.setIfInBounds_toArray, List.set_cons_zero, List.set_cons_succ]
          refine wpAnyH_take (i := 9) (v := ?_) rfl (by kernel_rfl) (by kernel_rfl) (by kernel_rfl) (fun _ _ _ h => h) (Or.inl ⟨by rfl, ?ycy29⟩) (by assumption) ?qcy29
          case ycy29 => (intro wz hSw; (try dsimp only at hSw); go_simp <;> with_reducible rfl)
          try simp only [Act.put, List.getElem_toArray, List.getElem_cons_zero, List.getElem_cons_succ, List.setIfInBounds_toArray, List.set_cons_zero, List.set_cons_succ]
          refine wpAnyH_take (i := 10) (v := ?_) rfl (by kernel_rfl) (by kernel_rfl) (by kernel_rfl) (fun _ _ _ h => h) (Or.inl ⟨by rfl, ?ycy210⟩) (by assumption) ?qcy210
          case ycy210 => (intro wz hSw; (try dsimp only at hSw); go_simp <;> with_reducible rfl)
          try simp only [Act.put, List.getElem_toArray, List.getElem_cons_zero, List.getElem_cons_succ, List.setIfInBounds_toArray, List.set_cons_zero, List.set_cons_succ]
          refine wpAnyH_take (i := 11) (v := ?_) rfl (by kernel_rfl) (by kernel_rfl) (by kernel_rfl) (fun _ _ _ h => h) (Or.inl ⟨by rfl, ?ycy211⟩) (by assumption) ?qcy211
          case ycy211 => (intro wz hSw; (try dsimp only at hSw); go_simp <;> with_reducible rfl)
          try simp only [Act.put, List.getElem_toArray, List.getElem_cons_zero, List.getElem_cons_succ, List.setIfInBounds_toArray, List.set_cons_zero, List.set_cons_succ]
          refine wpAnyH_take (i := 12) (v := ?_) rfl (by kernel_rfl) (by kernel_rfl) (by kernel_rfl) (fun _ _ _ h => h) (Or.inl ⟨by rfl, ?ycy212⟩) (by assumption) ?qcy212
          case ycy212 => (intro wz hSw; (try dsimp only at hSw); go_simp <;> with_reducible rfl)
          try simp only [Act.put, List.getElem_toArray, List.getElem_cons_zero, List.getElem_cons_succ, List.setIfInBounds_toArray, List.set_cons_zero, List.set_cons_succ]
          refine wpAnyH_take (i := 13) (v := ?_) rfl (by kernel_rfl) (by kernel_rfl) (by kernel_rfl) (fun _ _ _ h => h) (Or.inl ⟨by rfl, ?ycy213⟩) (by assumption) ?qcy213
          case ycy213 => (intro wz hSw; (try dsimp only at hSw); go_simp <;> with_reducible rfl)
          try simp only [Act.put, List.getElem_toArray, List.getElem_cons_zero, List.getElem_cons_succ, List.setIfInBounds_toArray, List.set_cons_zero, List.set_cons_succ]
          refine wpAnyH_take (i := 14) (v := ?_) rfl (by kernel_rfl) (by kernel_rfl) (by kernel_rfl) (fun _ _ _ h => h) (Or.inl ⟨by rfl, ?ycy214⟩) (by assumption) ?qcy214
          case ycy214 => (intro wz hSw; (try dsimp only at hSw); go_simp <;> with_reducible rfl)
          try simp only [Act.put, List.getElem_toArray, List.getElem_cons_zero, List.getElem_cons_succ, List.setIfInBounds_toArray, List.set_cons_zero, List.set_cons_succ]
          refine wpAnyH_take (i := 15) (v := ?_) rfl (by kernel_rfl) (by kernel_rfl) (by kernel_rfl) (fun _ _ _ h => h) (Or.inl ⟨by rfl, ?ycy215⟩) (by assumption) ?qcy215
          case ycy215 => (intro wz hSw; (try dsimp only at hSw); go_simp <;> with_reducible rfl)
          try simp only [Act.put, List.getElem_toArray, List.getElem_cons_zero, List.getElem_cons_succ, List.setIfInBounds_toArray, List.set_cons_zero, List.set_cons_succ]
          refine wpAnyH_ready (rs := [16]) (by kernel_rfl) (by simp) ?_
          refine AllReadyH.cons rfl (fun K hK => ?_) AllReadyH.nil
          go_simp
          refine HADM.out.mono ?_
          rintro e w6 ⟨rfl, hm6⟩
          have HX6 := Lib.hid hm6
          clear hm6
          refine hK.out _ _ (HCM.out _ HX6.out.2.2) (fun hHeldcy216 => ?_)
          clear hK K
          try simp only [Act.put, List.getElem_toArray, List.getElem_cons_zero, List.getElem_cons_succ, List.setIfInBounds_toArray, List.set_cons_zero, List.set_cons_succ]
          refine wpAnyH_take (i := 17) (v := ?_) rfl (by kernel_rfl) (by kernel_rfl) (by kernel_rfl) (fun _ _ _ h => h) (Or.inl ⟨by rfl, ?ycy217⟩) (by assumption) ?qcy217
          case ycy217 => (intro wz hSw; (try dsimp only at hSw); go_simp <;> with_reducible rfl)
          try simp only [Act.put, List.getElem_toArray, List.getElem_cons_zero, List.getElem_cons_succ, List.setIfInBounds_toArray, List.set_cons_zero, List.set_cons_succ]
          refine wpAnyH_take (i := 18) (v := ?_) rfl (by kernel_rfl) (by kernel_rfl) (by kernel_rfl) (fun _ _ _ h => h) (Or.inl ⟨by rfl, ?ycy218⟩) (by assumption) ?qcy218
          case ycy218 => (intro wz hSw; (try dsimp only at hSw); go_simp <;> with_reducible rfl)
          try simp only [Act.put, List.getElem_toArray, List.getElem_cons_zero, List.getElem_cons_succ, List.setIfInBounds_toArray, List.set_cons_zero, List.set_cons_succ]
          refine wpAnyH_done (by kernel_rfl) ?_ _
          clear HADM HM
          clear hHeld0
          have HN : Hid (WI0 w1 Ca Cb Bb ba bb N l (i + 1) v9 w6) := Lib.hid (HX6.out.1 rfl)
          clear HX6 hin hmi
          go_wp2_with fail
          go_roundw
          case rel => exact ⟨i + 1, by go_num, by omega, _, rfl, HN⟩
          case measure => simp [intOf]; omega
        | true =>
          go_upto_region 14 with fail
          refine wp_region_held_drew (S := fun X => X.cell? ⟨gm, om + i * 2, none⟩ = some (.int .i64 y0) ∧ X.cell? ⟨gm, om + i * 2 + 1, none⟩ = some (.int .i64 y1)) (by kernel_rfl) (HCM.out _ (below_drewN HM.out.bel 1)) (fun hHeld0 => ?_)
          obtain ⟨U1, hU1⟩ : ∃ X, X = w5.drew := ⟨_, rfl⟩
          replace HM : Hid (WIM w1 Ca Cb Bb ba bb N l i v9 U1) := Lib.hid (by rw [hU1]; exact HM.out.below (below_drewN (Below.refl _ _) 1))
          rw [← hU1] at hHeld0 ⊢
          clear hU1
          have HADM := Lib.hid (HM.out.addM HT1.out (by omega) ⟨y0, y1⟩)
          rw [hin] at HADM
          dsimp only at HADM
          refine wpAnyH_take (i := 0) (v := ?_) rfl (by kernel_rfl) (by kernel_rfl) (by kernel_rfl) (fun _ _ _ h => h) (Or.inl ⟨by rfl, ?ycy30⟩) (by assumption) ?qcy30
          case ycy30 => (intro wz hSw; (try dsimp only at hSw); go_simp <;> with_reducible rfl)
          try simp only [Act.put, List.getElem_toArray, List.getElem_cons_zero, List.setIfInBounds_toArray, List.set_cons_zero, List.set_cons_succ]
          refine wpAnyH_take (i := 1) (v := ?_) rfl (by kernel_rfl) (by kernel_rfl) (by kernel_rfl) (fun _ _ _ h => h) (Or.inl ⟨by rfl, ?ycy31⟩) (by assumption) ?qcy31
          case ycy31 => (intro wz hSw; (try dsimp only at hSw); go_simp <;> with_reducible rfl)
          try simp only [Act.put, List.getElem_toArray, List.getElem_cons_zero, List.getElem_cons_succ, List.setIfInBounds_toArray, List.set_cons_zero, List.set_cons_succ]
          refine wpAnyH_take (i := 2) (v := ?_) rfl (by kernel_rfl) (by kernel_rfl) (by kernel_rfl) (fun _ _ _ h => h) (Or.inl ⟨by rfl, ?ycy32⟩) (by assumption) ?qcy32
          case ycy32 => (intro wz hSw; (try dsimp only at hSw); go_simp <;> with_reducible rfl)
          try simp only [Act.put, List.getElem_toArray, List.getElem_cons_zero, List.getElem_cons_succ, List.setIfInBounds_toArray, List.set_cons_zero, List.set_cons_succ]
          refine wpAnyH_take (i := 3) (v := ?_) rfl (by kernel_rfl) (by kernel_rfl) (by kernel_rfl) (fun _ _ _ h => h) (Or.inl ⟨by rfl, ?ycy33⟩) (by assumption) ?qcy33
          case ycy33 => (intro wz hSw; (try dsimp only at hSw); go_simp <;> with_reducible rfl)
          try simp only [Act.put, List.getElem_toArray, List.getElem_cons_zero, List.getElem_cons_succ, List.setIfInBounds_toArray, List.set_cons_zero, List.set_cons_succ]
          refine wpAnyH_take (i := 4) (v := ?_) rfl (by kernel_rfl) (by kernel_rfl) (by kernel_rfl) (fun _ _ _ h => h) (Or.inl ⟨by rfl, ?ycy34⟩) (by assumption) ?qcy34
          case ycy34 => (intro wz hSw; (try dsimp only at hSw); go_simp <;> with_reducible rfl)
          try simp only [Act.put, List.getElem_toArray, List.getElem_cons_zero, List.getElem_cons_succ, List.setIfInBounds_toArray, List.set_cons_zero, List.set_cons_succ]
          refine wpAnyH_take (i := 5) (v := ?_) rfl (by kernel_rfl) (by kernel_rfl) (by kernel_rfl) (fun _ _ _ h => h) (Or.inl ⟨by rfl, ?ycy35⟩) (by assumption) ?qcy35
          case ycy35 => (intro wz hSw; (try dsimp only at hSw); go_simp <;> with_reducible rfl)
          try simp only [Act.put, List.getElem_toArray, List.getElem_cons_zero, List.getElem_cons_succ, List.setIfInBounds_toArray, List.set_cons_zero, List.set_cons_succ]
          refine wpAnyH_take (i := 6) (v := ?_) rfl (by kernel_rfl) (by kernel_rfl) (by kernel_rfl) (fun _ _ _ h => h) (Or.inl ⟨by rfl, ?ycy36⟩) (by assumption) ?qcy36
          case ycy36 => (intro wz hSw; (try dsimp only at hSw); go_simp <;> with_reducible rfl)
          try simp only [Act.put, List.getElem_toArray, List.getElem_cons_zero, List.getElem_cons_succ, List.setIfInBounds_toArray, List.set_cons_zero, List.set_cons_succ]
          refine wpAnyH_take (i := 7) (v := ?_) rfl (by kernel_rfl) (by kernel_rfl) (by kernel_rfl) (fun _ _ _ h => h) (Or.inl ⟨by rfl, ?ycy37⟩) (by assumption) ?qcy37
          case ycy37 => (intro wz hSw; (try dsimp only at hSw); go_simp <;> with_reducible rfl)
          try simp only [Act.put, List.getElem_toArray, List.getElem_cons_zero, List.getElem_cons_succ, List.setIfInBounds_toArray, List.set_cons_zero, List.set_cons_succ]
          refine wpAnyH_take (i := 8) (v := ?_) rfl (by kernel_rfl) (by kernel_rfl) (by kernel_rfl) (fun _ _ _ h => h) (Or.inl ⟨by rfl, ?ycy38⟩) (by assumption) ?qcy38
          case ycy38 => (intro wz hSw; (try dsimp only at hSw); go_simp <;> with_reducible rfl)
          try simp only [Act.put, List.getElem_toArray, List.getElem_cons_zero, List.getElem_cons_succ, List.setIfInBounds_toArray, List.set_cons_zero, List.set_cons_succ]
          refine wpAnyH_take (i := 9) (v := ?_) rfl (by kernel_rfl) (by kernel_rfl) (by kernel_rfl) (fun _ _ _ h => h) (Or.inl ⟨by rfl, ?ycy39⟩) (by assumption) ?qcy39
          case ycy39 => (intro wz hSw; (try dsimp only at hSw); go_simp <;> with_reducible rfl)
          try simp only [Act.put, List.getElem_toArray, List.getElem_cons_zero, List.getElem_cons_succ, List.setIfInBounds_toArray, List.set_cons_zero, List.set_cons_succ]
          refine wpAnyH_take (i := 10) (v := ?_) rfl (by kernel_rfl) (by kernel_rfl) (by kernel_rfl) (fun _ _ _ h => h) (Or.inl ⟨by rfl, ?ycy310⟩) (by assumption) ?qcy310
          case ycy310 => (intro wz hSw; (try dsimp only at hSw); go_simp <;> with_reducible rfl)
          try simp only [Act.put, List.getElem_toArray, List.getElem_cons_zero, List.getElem_cons_succ, List.setIfInBounds_toArray, List.set_cons_zero, List.set_cons_succ]
          refine wpAnyH_take (i := 11) (v := ?_) rfl (by kernel_rfl) (by kernel_rfl) (by kernel_rfl) (fun _ _ _ h => h) (Or.inl ⟨by rfl, ?ycy311⟩) (by assumption) ?qcy311
          case ycy311 => (intro wz hSw; (try dsimp only at hSw); go_simp <;> with_reducible rfl)
          try simp only [Act.put, List.getElem_toArray, List.getElem_cons_zero, List.getElem_cons_succ, List.setIfInBounds_toArray, List.set_cons_zero, List.set_cons_succ]
          refine wpAnyH_take (i := 12) (v := ?_) rfl (by kernel_rfl) (by kernel_rfl) (by kernel_rfl) (fun _ _ _ h => h) (Or.inl ⟨by rfl, ?ycy312⟩) (by assumption) ?qcy312
          case ycy312 => (intro wz hSw; (try dsimp only at hSw); go_simp <;> with_reducible rfl)
          try simp only [Act.put, List.getElem_toArray, List.getElem_cons_zero, List.getElem_cons_succ, List.setIfInBounds_toArray, List.set_cons_zero, List.set_cons_succ]
          refine wpAnyH_take (i := 13) (v := ?_) rfl (by kernel_rfl) (by kernel_rfl) (by kernel_rfl) (fun _ _ _ h => h) (Or.inl ⟨by rfl, ?ycy313⟩) (by assumption) ?qcy313
          case ycy313 => (intro wz hSw; (try dsimp only at hSw); go_simp <;> with_reducible rfl)
          try simp only [Act.put, List.getElem_toArray, List.getElem_cons_zero, List.getElem_cons_succ, List.setIfInBounds_toArray, List.set_cons_zero, List.set_cons_succ]
          refine wpAnyH_take (i := 14) (v := ?_) rfl (by kernel_rfl) (by kernel_rfl) (by kernel_rfl) (fun _ _ _ h => h) (Or.inl ⟨by rfl, ?ycy314⟩) (by assumption) ?qcy314
          case ycy314 => (intro wz hSw; (try dsimp only at hSw); go_simp <;> with_reducible rfl)
          try simp only [Act.put, List.getElem_toArray, List.getElem_cons_zero, List.getElem_cons_succ, List.setIfInBounds_toArray, List.set_cons_zero, List.set_cons_succ]
          refine wpAnyH_take (i := 15) (v := ?_) rfl (by kernel_rfl) (by kernel_rfl) (by kernel_rfl) (fun _ _ _ h => h) (Or.inl ⟨by rfl, ?ycy315⟩) (by assumption) ?qcy315
          case ycy315 => (intro wz hSw; (try dsimp only at hSw); go_simp <;> with_reducible rfl)
          try simp only [Act.put, List.getElem_toArray, List.getElem_cons_zero, List.getElem_cons_succ, List.setIfInBounds_toArray, List.set_cons_zero, List.set_cons_succ]
          refine wpAnyH_ready (rs := [16]) (by kernel_rfl) (by simp) ?_
          refine AllReadyH.cons rfl (fun K hK => ?_) AllReadyH.nil
          go_simp
          refine HADM.out.mono ?_
          rintro e w6 ⟨rfl, hm6⟩
          have HX6 := Lib.hid hm6
          clear hm6
          refine hK.out _ _ (HCM.out _ HX6.out.2.2) (fun hHeldcy316 => ?_)
          clear hK K
          try simp only [Act.put, List.getElem_toArray, List.getElem_cons_zero, List.getElem_cons_succ, List.setIfInBounds_toArray, List.set_cons_zero, List.set_cons_succ]
          refine wpAnyH_take (i := 17) (v := ?_) rfl (by kernel_rfl) (by kernel_rfl) (by kernel_rfl) (fun _ _ _ h => h) (Or.inl ⟨by rfl, ?ycy317⟩) (by assumption) ?qcy317
          case ycy317 => (intro wz hSw; (try dsimp only at hSw); go_simp <;> with_reducible rfl)
          try simp only [Act.put, List.getElem_toArray, List.getElem_cons_zero, List.getElem_cons_succ, List.setIfInBounds_toArray, List.set_cons_zero, List.set_cons_succ]
          refine wpAnyH_take (i := 18) (v := ?_) rfl (by kernel_rfl) (by kernel_rfl) (by kernel_rfl) (fun _ _ _ h => h) (Or.inl ⟨by rfl, ?ycy318⟩) (by assumption) ?qcy318
          case ycy318 => (intro wz hSw; (try dsimp only at hSw); go_simp <;> with_reducible rfl)
          try simp only [Act.put, List.getElem_toArray, List.getElem_cons_zero, List.getElem_cons_succ, List.setIfInBounds_toArray, List.set_cons_zero, List.set_cons_succ]
          refine wpAnyH_done (by kernel_rfl) ?_ _
          clear HADM HM
          clear hHeld0
          have HXX : Hid (WIX w1 Ca Cb Bb ba bb N l i v9 ⟨y0, y1⟩ w6) := Lib.hid (HX6.out.2.1 rfl)
          obtain ⟨z0, z1⟩ := HCM.out _ HXX.out.bel
          have hgm : gm < w6.heap.size := HGM.out gm om (by omega) rfl w6 HXX.out.bel
          clear HX6 hin
          obtain ⟨ad, ho, hal, hcb, happ⟩ := HXX.out.app
          have HO := Lib.hid (And.intro ho (And.intro hal hcb))
          have HAPP := Lib.hid happ
          clear ho hal hcb happ HXX
          go_wp2_with (at_builtin; refine append_pais rfl (.tmp 96) (.tmp 101) rfl (B := Cb) (by have := HO.out.2.2; simp; omega) (HO.out.1 _) rfl (pai_at ⟨y0, y1⟩ (heap_alloc_at _ _ _ (by simp))) rfl (by have := HO.out.2.1; simp only [List.length_cons, List.length_nil]; omega) ?_; intro v8 w8 h8 hg8 _; have HN := Lib.hid (HAPP.out _ v8 w8 h8 hg8); clear h8 hg8)
          go_roundw
          case rel => exact ⟨i + 1, by go_num, by omega, _, rfl, HN⟩
          case measure => simp [intOf]; omega
      · have hmi : ¬ (i : Int) < (Mo : Int) := by omega
        go_upto_region 14 with fail
        refine wp_region_held_drew (S := fun _ => True) (by kernel_rfl) (trivial) (fun hHeld0 => ?_)
        obtain ⟨U1, hU1⟩ : ∃ X, X = w5.drew := ⟨_, rfl⟩
        replace HM : Hid (WIM w1 Ca Cb Bb ba bb N l i v9 U1) := Lib.hid (by rw [hU1]; exact HM.out.below (below_drewN (Below.refl _ _) 1))
        rw [← hU1]
        clear hU1
        refine wpAnyH_take (i := 0) (v := ?_) rfl (by kernel_rfl) (by kernel_rfl) (by kernel_rfl) (fun _ _ _ h => h) (Or.inl ⟨by rfl, ?ycy40⟩) (by assumption) ?qcy40
        case ycy40 => (intro wz hSw; (try dsimp only at hSw); go_simp <;> with_reducible rfl)
        try simp only [Act.put, List.getElem_toArray, List.getElem_cons_zero, List.setIfInBounds_toArray, List.set_cons_zero, List.set_cons_succ]
        refine wpAnyH_take (i := 1) (v := ?_) rfl (by kernel_rfl) (by kernel_rfl) (by kernel_rfl) (fun _ _ _ h => h) (Or.inl ⟨by rfl, ?ycy41⟩) (by assumption) ?qcy41
        case ycy41 => (intro wz hSw; (try dsimp only at hSw); go_simp <;> with_reducible rfl)
        try simp only [Act.put, List.getElem_toArray, List.getElem_cons_zero, List.getElem_cons_succ, List.setIfInBounds_toArray, List.set_cons_zero, List.set_cons_succ]
        refine wpAnyH_take (i := 2) (v := ?_) rfl (by kernel_rfl) (by kernel_rfl) (by kernel_rfl) (fun _ _ _ h => h) (Or.inl ⟨by rfl, ?ycy42⟩) (by assumption) ?qcy42
        case ycy42 => (intro wz hSw; (try dsimp only at hSw); go_simp <;> with_reducible rfl)
        try simp only [Act.put, List.getElem_toArray, List.getElem_cons_zero, List.getElem_cons_succ, List.setIfInBounds_toArray, List.set_cons_zero, List.set_cons_succ]
        refine wpAnyH_take (i := 3) (v := ?_) rfl (by kernel_rfl) (by kernel_rfl) (by kernel_rfl) (fun _ _ _ h => h) (Or.inl ⟨by rfl, ?ycy43⟩) (by assumption) ?qcy43
        case ycy43 => (intro wz hSw; (try dsimp only at hSw); go_simp <;> with_reducible rfl)
        try simp only [Act.put, List.getElem_toArray, List.getElem_cons_zero, List.getElem_cons_succ, List.setIfInBounds_toArray, List.set_cons_zero, List.set_cons_succ]
        refine wpAnyH_take (i := 4) (v := ?_) rfl (by kernel_rfl) (by kernel_rfl) (by kernel_rfl) (fun _ _ _ h => h) (Or.inl ⟨by rfl, ?ycy44⟩) (by assumption) ?qcy44
        case ycy44 => (intro wz hSw; (try dsimp only at hSw); go_simp <;> with_reducible rfl)
        try simp only [Act.put, List.getElem_toArray, List.getElem_cons_zero, List.getElem_cons_succ, List.setIfInBounds_toArray, List.set_cons_zero, List.set_cons_succ]
        refine wpAnyH_take (i := 5) (v := undef) rfl (by kernel_rfl) (by kernel_rfl) (by kernel_rfl) (fun _ _ _ h => h) (Or.inr ⟨by rfl, rfl⟩) (by assumption) ?_
        try simp only [Act.put, List.getElem_toArray, List.getElem_cons_zero, List.getElem_cons_succ, List.setIfInBounds_toArray, List.set_cons_zero, List.set_cons_succ]
        refine wpAnyH_take (i := 6) (v := undef) rfl (by kernel_rfl) (by kernel_rfl) (by kernel_rfl) (fun _ _ _ h => h) (Or.inr ⟨by rfl, rfl⟩) (by assumption) ?_
        try simp only [Act.put, List.getElem_toArray, List.getElem_cons_zero, List.getElem_cons_succ, List.setIfInBounds_toArray, List.set_cons_zero, List.set_cons_succ]
        refine wpAnyH_take (i := 7) (v := undef) rfl (by kernel_rfl) (by kernel_rfl) (by kernel_rfl) (fun _ _ _ h => h) (Or.inr ⟨by rfl, rfl⟩) (by assumption) ?_
        try simp only [Act.put, List.getElem_toArray, List.getElem_cons_zero, List.getElem_cons_succ, List.setIfInBounds_toArray, List.set_cons_zero, List.set_cons_succ]
        refine wpAnyH_take (i := 8) (v := undef) rfl (by kernel_rfl) (by kernel_rfl) (by kernel_rfl) (fun _ _ _ h => h) (Or.inr ⟨by rfl, rfl⟩) (by assumption) ?_
        try simp only [Act.put, List.getElem_toArray, List.getElem_cons_zero, List.getElem_cons_succ, List.setIfInBounds_toArray, List.set_cons_zero, List.set_cons_succ]
        refine wpAnyH_take (i := 9) (v := undef) rfl (by kernel_rfl) (by kernel_rfl) (by kernel_rfl) (fun _ _ _ h => h) (Or.inr ⟨by rfl, rfl⟩) (by assumption) ?_
        try simp only [Act.put, List.getElem_toArray, List.getElem_cons_zero, List.getElem_cons_succ, List.setIfInBounds_toArray, List.set_cons_zero, List.set_cons_succ]
        refine wpAnyH_take (i := 10) (v := undef) rfl (by kernel_rfl) (by kernel_rfl) (by kernel_rfl) (fun _ _ _ h => h) (Or.inr ⟨by rfl, rfl⟩) (by assumption) ?_
        try simp only [Act.put, List.getElem_toArray, List.getElem_cons_zero, List.getElem_cons_succ, List.setIfInBounds_toArray, List.set_cons_zero, List.set_cons_succ]
        refine wpAnyH_take (i := 11) (v := undef) rfl (by kernel_rfl) (by kernel_rfl) (by kernel_rfl) (fun _ _ _ h => h) (Or.inr ⟨by rfl, rfl⟩) (by assumption) ?_
        try simp only [Act.put, List.getElem_toArray, List.getElem_cons_zero, List.getElem_cons_succ, List.setIfInBounds_toArray, List.set_cons_zero, List.set_cons_succ]
        refine wpAnyH_take (i := 12) (v := undef) rfl (by kernel_rfl) (by kernel_rfl) (by kernel_rfl) (fun _ _ _ h => h) (Or.inr ⟨by rfl, rfl⟩) (by assumption) ?_
        try simp only [Act.put, List.getElem_toArray, List.getElem_cons_zero, List.getElem_cons_succ, List.setIfInBounds_toArray, List.set_cons_zero, List.set_cons_succ]
        refine wpAnyH_take (i := 13) (v := undef) rfl (by kernel_rfl) (by kernel_rfl) (by kernel_rfl) (fun _ _ _ h => h) (Or.inr ⟨by rfl, rfl⟩) (by assumption) ?_
        try simp only [Act.put, List.getElem_toArray, List.getElem_cons_zero, List.getElem_cons_succ, List.setIfInBounds_toArray, List.set_cons_zero, List.set_cons_succ]
        refine wpAnyH_take (i := 14) (v := undef) rfl (by kernel_rfl) (by kernel_rfl) (by kernel_rfl) (fun _ _ _ h => h) (Or.inr ⟨by rfl, rfl⟩) (by assumption) ?_
        try simp only [Act.put, List.getElem_toArray, List.getElem_cons_zero, List.getElem_cons_succ, List.setIfInBounds_toArray, List.set_cons_zero, List.set_cons_succ]
        refine wpAnyH_take (i := 15) (v := undef) rfl (by kernel_rfl) (by kernel_rfl) (by kernel_rfl) (fun _ _ _ h => h) (Or.inr ⟨by rfl, rfl⟩) (by assumption) ?_
        try simp only [Act.put, List.getElem_toArray, List.getElem_cons_zero, List.getElem_cons_succ, List.setIfInBounds_toArray, List.set_cons_zero, List.set_cons_succ]
        refine wpAnyH_take (i := 16) (v := undef) rfl (by kernel_rfl) (by kernel_rfl) (by kernel_rfl) (fun _ _ _ h => h) (Or.inr ⟨by rfl, rfl⟩) (by assumption) ?_
        try simp only [Act.put, List.getElem_toArray, List.getElem_cons_zero, List.getElem_cons_succ, List.setIfInBounds_toArray, List.set_cons_zero, List.set_cons_succ]
        refine wpAnyH_take (i := 17) (v := undef) rfl (by kernel_rfl) (by kernel_rfl) (by kernel_rfl) (fun _ _ _ h => h) (Or.inr ⟨by rfl, rfl⟩) (by assumption) ?_
        try simp only [Act.put, List.getElem_toArray, List.getElem_cons_zero, List.getElem_cons_succ, List.setIfInBounds_toArray, List.set_cons_zero, List.set_cons_succ]
        refine wpAnyH_take (i := 18) (v := ?_) rfl (by kernel_rfl) (by kernel_rfl) (by kernel_rfl) (fun _ _ _ h => h) (Or.inl ⟨by rfl, ?ycy418⟩) (by assumption) ?qcy418
        case ycy418 => (intro wz hSw; (try dsimp only at hSw); go_simp <;> with_reducible rfl)
        try simp only [Act.put, List.getElem_toArray, List.getElem_cons_zero, List.getElem_cons_succ, List.setIfInBounds_toArray, List.set_cons_zero, List.set_cons_succ]
        refine wpAnyH_done (by kernel_rfl) ?_ _
        clear hHeld0
        have HN : Hid (WI0 w1 Ca Cb Bb ba bb N l (i + 1) v9 U1) := Lib.hid HM.out.next
        clear HM
        go_wp2_with fail
        go_roundw
        case rel => exact ⟨i + 1, by go_num, by omega, _, rfl, HN⟩
        case measure => simp [intOf]; omega
    · have hli : ¬ (i : Int) < (L : Int) := by omega
      by_cases hex : i < Mo
      · have hexi : (i : Int) < (Mo : Int) := by omega
        have HM : Hid (WIM w1 Ca Cb Bb ba bb N l i v9 wr) := Lib.hid (HI.out.skip (by have := HLL.out; omega))
        clear HI
        have hmo := hex
        obtain ⟨gm, om, hpm, HCM0⟩ := HMO.out i hmo
        subst hpm
        have hmi : (i : Int) < (Mo : Int) := by omega
        obtain ⟨y, hy⟩ : ∃ y, y = mo.getD i Pai.zero := ⟨_, rfl⟩
        rw [← hy] at HCM0
        obtain ⟨y0, y1⟩ := y
        have HCM := Lib.hid HCM0
        dsimp only at HCM
        clear HCM0 hy
        cases hin : inR N ⟨y0, y1⟩ with
        | false =>
          go_upto_region 14 with fail
          refine wp_region_held_drew (S := fun X => X.cell? ⟨gm, om + i * 2, none⟩ = some (.int .i64 y0) ∧ X.cell? ⟨gm, om + i * 2 + 1, none⟩ = some (.int .i64 y1)) (by kernel_rfl) (HCM.out _ (below_drewN HM.out.bel 1)) (fun hHeld0 => ?_)
          obtain ⟨U1, hU1⟩ : ∃ X, X = wr.drew := ⟨_, rfl⟩
          replace HM : Hid (WIM w1 Ca Cb Bb ba bb N l i v9 U1) := Lib.hid (by rw [hU1]; exact HM.out.below (below_drewN (Below.refl _ _) 1))
          rw [← hU1] at hHeld0 ⊢
          clear hU1
          have HADM := Lib.hid (HM.out.addM HT1.out (by omega) ⟨y0, y1⟩)
          rw [hin] at HADM
          dsimp only at HADM
          refine wpAnyH_take (i := 0) (v := ?_) rfl (by kernel_rfl) (by kernel_rfl) (by kernel_rfl) (fun _ _ _ h => h) (Or.inl ⟨by rfl, ?ycy50⟩) (by assumption) ?qcy50
          case ycy50 => (intro wz hSw; (try dsimp only at hSw); go_simp <;> with_reducible rfl)
          try simp only [Act.put, List.getElem_toArray, List.getElem_cons_zero, List.setIfInBounds_toArray, List.set_cons_zero, List.set_cons_succ]
          refine wpAnyH_take (i := 1) (v := ?_) rfl (by kernel_rfl) (by kernel_rfl) (by kernel_rfl) (fun _ _ _ h => h) (Or.inl ⟨by rfl, ?ycy51⟩) (by assumption) ?qcy51
          case ycy51 => (intro wz hSw; (try dsimp only at hSw); go_simp <;> with_reducible rfl)
          try simp only [Act.put, List.getElem_toArray, List.getElem_cons_zero, List.getElem_cons_succ, List.setIfInBounds_toArray, List.set_cons_zero, List.set_cons_succ]
          refine wpAnyH_take (i := 2) (v := ?_) rfl (by kernel_rfl) (by kernel_rfl) (by kernel_rfl) (fun _ _ _ h => h) (Or.inl ⟨by rfl, ?ycy52⟩) (by assumption) ?qcy52
          case ycy52 => (intro wz hSw; (try dsimp only at hSw); go_simp <;> with_reducible rfl)
          try simp only [Act.put, List.getElem_toArray, List.getElem_cons_zero, List.getElem_cons_succ, List.setIfInBounds_toArray, List.set_cons_zero, List.set_cons_succ]
          refine wpAnyH_take (i := 3) (v := ?_) rfl (by kernel_rfl) (by kernel_rfl) (by kernel_rfl) (fun _ _ _ h => h) (Or.inl ⟨by rfl, ?ycy53⟩) (by assumption) ?qcy53
          case ycy53 => (intro wz hSw; (try dsimp only at hSw); go_simp <;> with_reducible rfl)
          try simp only [Act.put, List.getElem_toArray, List.getElem_cons_zero, List.getElem_cons_succ, List.setIfInBounds_toArray, List.set_cons_zero, List.set_cons_succ]
          refine wpAnyH_take (i := 4) (v := ?_) rfl (by kernel_rfl) (by kernel_rfl) (by kernel_rfl) (fun _ _ _ h => h) (Or.inl ⟨by rfl, ?ycy54⟩) (by assumption) ?qcy54
          case ycy54 => (intro wz hSw; (try dsimp only at hSw); go_simp <;> with_reducible rfl)
          try simp only [Act.put, List.getElem_toArray, List.getElem_cons_zero, List.getElem_cons_succ, List.setIfInBounds_toArray, List.set_cons_zero, List.set_cons_succ]
          refine wpAnyH_take (i := 5) (v := ?_) rfl (by kernel_rfl) (by kernel_rfl) (by kernel_rfl) (fun _ _ _ h => h) (Or.inl ⟨by rfl, ?ycy55⟩) (by assumption) ?qcy55
          case ycy55 => (intro wz hSw; (try dsimp only at hSw); go_simp <;> with_reducible rfl)
          try simp only [Act.put, List.getElem_toArray, List.getElem_cons_zero, List.getElem_cons_succ, List.setIfInBounds_toArray, List.set_cons_zero, List.set_cons_succ]
          refine wpAnyH_take (i := 6) (v := ?_) rfl (by kernel_rfl) (by kernel_rfl) (by kernel_rfl) (fun _ _ _ h => h) (Or.inl ⟨by rfl, ?ycy56⟩) (by assumption) ?qcy56
          case ycy56 => (intro wz hSw; (try dsimp only at hSw); go_simp <;> with_reducible rfl)
          try simp only [Act.put, List.getElem_toArray, List.getElem_cons_zero, List.getElem_cons_succ, List.setIfInBounds_toArray, List.set_cons_zero, List.set_cons_succ]
          refine wpAnyH_take (i := 7) (v := ?_) rfl (by kernel_rfl) (by kernel_rfl) (by kernel_rfl) (fun _ _ _ h => h) (Or.inl ⟨by rfl, ?ycy57⟩) (by assumption) ?qcy57
          case ycy57 => (intro wz hSw; (try dsimp only at hSw); go_simp <;> with_reducible rfl)
          try simp only [Act.put, List.getElem_toArray, List.getElem_cons_zero, List.getElem_cons_succ, List.setIfInBounds_toArray, List.set_cons_zero, List.set_cons_succ]
          refine wpAnyH_take (i := 8) (v := ?_) rfl (by kernel_rfl) (by kernel_rfl) (by kernel_rfl) (fun _ _ _ h => h) (Or.inl ⟨by rfl, ?ycy58⟩) (by assumption) ?qcy58
          case ycy58 => (intro wz hSw; (try dsimp only at hSw); go_simp <;> with_reducible rfl)
          try simp only [Act.put, List.getElem_toArray, List.getElem_cons_zero, List.getElem_cons_succ, List.setIfInBounds_toArray, List.set_cons_zero, List.set_cons_succ]
          refine wpAnyH_take (i := 9) (v := ?_) rfl (by kernel_rfl) (by kernel_rfl) (by kernel_rfl) (fun _ _ _ h => h) (Or.inl ⟨by rfl, ?ycy59⟩) (by assumption) ?qcy59
          case ycy59 => (intro wz hSw; (try dsimp only at hSw); go_simp <;> with_reducible rfl)
          try simp only [Act.put, List.getElem_toArray, List.getElem_cons_zero, List.getElem_cons_succ, List.setIfInBounds_toArray, List.set_cons_zero, List.set_cons_succ]
          refine wpAnyH_take (i := 10) (v := ?_) rfl (by kernel_rfl) (by kernel_rfl) (by kernel_rfl) (fun _ _ _ h => h) (Or.inl ⟨by rfl, ?ycy510⟩) (by assumption) ?qcy510
          case ycy510 => (intro wz hSw; (try dsimp only at hSw); go_simp <;> with_reducible rfl)
          try simp only [Act.put, List.getElem_toArray, List.getElem_cons_zero, List.getElem_cons_succ, List.setIfInBounds_toArray, List.set_cons_zero, List.set_cons_succ]
          refine wpAnyH_take (i := 11) (v := ?_) rfl (by kernel_rfl) (by kernel_rfl) (by kernel_rfl) (fun _ _ _ h => h) (Or.inl ⟨by rfl, ?ycy511⟩) (by assumption) ?qcy511
          case ycy511 => (intro wz hSw; (try dsimp only at hSw); go_simp <;> with_reducible rfl)
          try simp only [Act.put, List.getElem_toArray, List.getElem_cons_zero, List.getElem_cons_succ, List.setIfInBounds_toArray, List.set_cons_zero, List.set_cons_succ]
          refine wpAnyH_take (i := 12) (v := ?_) rfl (by kernel_rfl) (by kernel_rfl) (by kernel_rfl) (fun _ _ _ h => h) (Or.inl ⟨by rfl, ?ycy512⟩) (by assumption) ?qcy512
          case ycy512 => (intro wz hSw; (try dsimp only at hSw); go_simp <;> with_reducible rfl)
          try simp only [Act.put, List.getElem_toArray, List.getElem_cons_zero, List.getElem_cons_succ, List.setIfInBounds_toArray, List.set_cons_zero, List.set_cons_succ]
          refine wpAnyH_take (i := 13) (v := ?_) rfl (by kernel_rfl) (by kernel_rfl) (by kernel_rfl) (fun _ _ _ h => h) (Or.inl ⟨by rfl, ?ycy513⟩) (by assumption) ?qcy513
          case ycy513 => (intro wz hSw; (try dsimp only at hSw); go_simp <;> with_reducible rfl)
          try simp only [Act.put, List.getElem_toArray, List.getElem_cons_zero, List.getElem_cons_succ, List.setIfInBounds_toArray, List.set_cons_zero, List.set_cons_succ]
          refine wpAnyH_take (i := 14) (v := ?_) rfl (by kernel_rfl) (by kernel_rfl) (by kernel_rfl) (fun _ _ _ h => h) (Or.inl ⟨by rfl, ?ycy514⟩) (by assumption) ?qcy514
          case ycy514 => (intro wz hSw; (try dsimp only at hSw); go_simp <;> with_reducible rfl)
          try simp only [Act.put, List.getElem_toArray, List.getElem_cons_zero, List.getElem_cons_succ, List.setIfInBounds_toArray, List.set_cons_zero, List.set_cons_succ]
          refine wpAnyH_take (i := 15) (v := ?_) rfl (by kernel_rfl) (by kernel_rfl) (by kernel_rfl) (fun _ _ _ h => h) (Or.inl ⟨by rfl, ?ycy515⟩) (by assumption) ?qcy515
          case ycy515 => (intro wz hSw; (try dsimp only at hSw); go_simp <;> with_reducible rfl)
          try simp only [Act.put, List.getElem_toArray, List.getElem_cons_zero, List.getElem_cons_succ, List.setIfInBounds_toArray, List.set_cons_zero, List.set_cons_succ]
          refine wpAnyH_ready (rs := [16]) (by kernel_rfl) (by simp) ?_
          refine AllReadyH.cons rfl (fun K hK => ?_) AllReadyH.nil
          go_simp
          refine HADM.out.mono ?_
          rintro e w6 ⟨rfl, hm6⟩
          have HX6 := Lib.hid hm6
          clear hm6
          refine hK.out _ _ (HCM.out _ HX6.out.2.2) (fun hHeldcy516 => ?_)
          clear hK K
          try simp only [Act.put, List.getElem_toArray, List.getElem_cons_zero, List.getElem_cons_succ, List.setIfInBounds_toArray, List.set_cons_zero, List.set_cons_succ]
          refine wpAnyH_take (i := 17) (v := ?_) rfl (by kernel_rfl) (by kernel_rfl) (by kernel_rfl) (fun _ _ _ h => h) (Or.inl ⟨by rfl, ?ycy517⟩) (by assumption) ?qcy517
          case ycy517 => (intro wz hSw; (try dsimp only at hSw); go_simp <;> with_reducible rfl)
          try simp only [Act.put, List.getElem_toArray, List.getElem_cons_zero, List.getElem_cons_succ, List.setIfInBounds_toArray, List.set_cons_zero, List.set_cons_succ]
          refine wpAnyH_take (i := 18) (v := ?_) rfl (by kernel_rfl) (by kernel_rfl) (by kernel_rfl) (fun _ _ _ h => h) (Or.inl ⟨by rfl, ?ycy518⟩) (by assumption) ?qcy518
          case ycy518 => (intro wz hSw; (try dsimp only at hSw); go_simp <;> with_reducible rfl)
          try simp only [Act.put, List.getElem_toArray, List.getElem_cons_zero, List.getElem_cons_succ, List.setIfInBounds_toArray, List.set_cons_zero, List.set_cons_succ]
          refine wpAnyH_done (by kernel_rfl) ?_ _
          clear HADM HM
          clear hHeld0
          have HN : Hid (WI0 w1 Ca Cb Bb ba bb N l (i + 1) v9 w6) := Lib.hid (HX6.out.1 rfl)
          clear HX6 hin hmi
          go_wp2_with fail
          go_roundw
          case rel => exact ⟨i + 1, by go_num, by omega, _, rfl, HN⟩
          case measure => simp [intOf]; omega
        | true =>
          go_upto_region 14 with fail
          refine wp_region_held_drew (S := fun X => X.cell? ⟨gm, om + i * 2, none⟩ = some (.int .i64 y0) ∧ X.cell? ⟨gm, om + i * 2 + 1, none⟩ = some (.int .i64 y1)) (by kernel_rfl) (HCM.out _ (below_drewN HM.out.bel 1)) (fun hHeld0 => ?_)
          obtain ⟨U1, hU1⟩ : ∃ X, X = wr.drew := ⟨_, rfl⟩
          replace HM : Hid (WIM w1 Ca Cb Bb ba bb N l i v9 U1) := Lib.hid (by rw [hU1]; exact HM.out.below (below_drewN (Below.refl _ _) 1))
          rw [← hU1] at hHeld0 ⊢
          clear hU1
          have HADM := Lib.hid (HM.out.addM HT1.out (by omega) ⟨y0, y1⟩)
          rw [hin] at HADM
          dsimp only at HADM
          refine wpAnyH_take (i := 0) (v := ?_) rfl (by kernel_rfl) (by kernel_rfl) (by kernel_rfl) (fun _ _ _ h => h) (Or.inl ⟨by rfl, ?ycy60⟩) (by assumption) ?qcy60
          case ycy60 => (intro wz hSw; (try dsimp only at hSw); go_simp <;> with_reducible rfl)
          try simp only [Act.put, List.getElem_toArray, List.getElem_cons_zero, List.setIfInBounds_toArray, List.set_cons_zero, List.set_cons_succ]
          refine wpAnyH_take (i := 1) (v := ?_) rfl (by kernel_rfl) (by kernel_rfl) (by kernel_rfl) (fun _ _ _ h => h) (Or.inl ⟨by rfl, ?ycy61⟩) (by assumption) ?qcy61
          case ycy61 => (intro wz hSw; (try dsimp only at hSw); go_simp <;> with_reducible rfl)
          try simp only [Act.put, List.getElem_toArray, List.getElem_cons_zero, List.getElem_cons_succ, List.setIfInBounds_toArray, List.set_cons_zero, List.set_cons_succ]
          refine wpAnyH_take (i := 2) (v := ?_) rfl (by kernel_rfl) (by kernel_rfl) (by kernel_rfl) (fun _ _ _ h => h) (Or.inl ⟨by rfl, ?ycy62⟩) (by assumption) ?qcy62
          case ycy62 => (intro wz hSw; (try dsimp only at hSw); go_simp <;> with_reducible rfl)
          try simp only [Act.put, List.getElem_toArray, List.getElem_cons_zero, List.getElem_cons_succ, List.setIfInBounds_toArray, List.set_cons_zero, List.set_cons_succ]
          refine wpAnyH_take (i := 3) (v := ?_) rfl (by kernel_rfl) (by kernel_rfl) (by kernel_rfl) (fun _ _ _ h => h) (Or.inl ⟨by rfl, ?ycy63⟩) (by assumption) ?qcy63
          case ycy63 => (intro wz hSw; (try dsimp only at hSw); go_simp <;> with_reducible rfl)
          try simp only [Act.put, List.getElem_toArray, List.getElem_cons_zero, List.getElem_cons_succ, List.setIfInBounds_toArray, List.set_cons_zero, List.set_cons_succ]
          refine wpAnyH_take (i := 4) (v := ?_) rfl (by kernel_rfl) (by kernel_rfl) (by kernel_rfl) (fun _ _ _ h => h) (Or.inl ⟨by rfl, ?ycy64⟩) (by assumption) ?qcy64
          case ycy64 => (intro wz hSw; (try dsimp only at hSw); go_simp <;> with_reducible rfl)
          try simp only [Act.put, List.getElem_toArray, List.getElem_cons_zero, List.getElem_cons_succ, List.setIfInBounds_toArray, List.set_cons_zero, List.set_cons_succ]
          refine wpAnyH_take (i := 5) (v := ?_) rfl (by kernel_rfl) (by kernel_rfl) (by kernel_rfl) (fun _ _ _ h => h) (Or.inl ⟨by rfl, ?ycy65⟩) (by assumption) ?qcy65
          case ycy65 => (intro wz hSw; (try dsimp only at hSw); go_simp <;> with_reducible rfl)
          try simp only [Act.put, List.getElem_toArray, List.getElem_cons_zero, List.getElem_cons_succ, List.setIfInBounds_toArray, List.set_cons_zero, List.set_cons_succ]
          refine wpAnyH_take (i := 6) (v := ?_) rfl (by kernel_rfl) (by kernel_rfl) (by kernel_rfl) (fun _ _ _ h => h) (Or.inl ⟨by rfl, ?ycy66⟩) (by assumption) ?qcy66
          case ycy66 => (intro wz hSw; (try dsimp only at hSw); go_simp <;> with_reducible rfl)
          try simp only [Act.put, List.getElem_toArray, List.getElem_cons_zero, List.getElem_cons_succ, List.setIfInBounds_toArray, List.set_cons_zero, List.set_cons_succ]
          refine wpAnyH_take (i := 7) (v := ?_) rfl (by kernel_rfl) (by kernel_rfl) (by kernel_rfl) (fun _ _ _ h => h) (Or.inl ⟨by rfl, ?ycy67⟩) (by assumption) ?qcy67
          case ycy67 => (intro wz hSw; (try dsimp only at hSw); go_simp <;> with_reducible rfl)
          try simp only [Act.put, List.getElem_toArray, List.getElem_cons_zero, List.getElem_cons_succ, List.setIfInBounds_toArray, List.set_cons_zero, List.set_cons_succ]
          refine wpAnyH_take (i := 8) (v := ?_) rfl (by kernel_rfl) (by kernel_rfl) (by kernel_rfl) (fun _ _ _ h => h) (Or.inl ⟨by rfl, ?ycy68⟩) (by assumption) ?qcy68
          case ycy68 => (intro wz hSw; (try dsimp only at hSw); go_simp <;> with_reducible rfl)
          try simp only [Act.put, List.getElem_toArray, List.getElem_cons_zero, List.getElem_cons_succ, List.setIfInBounds_toArray, List.set_cons_zero, List.set_cons_succ]
          refine wpAnyH_take (i := 9) (v := ?_) rfl (by kernel_rfl) (by kernel_rfl) (by kernel_rfl) (fun _ _ _ h => h) (Or.inl ⟨by rfl, ?ycy69⟩) (by assumption) ?qcy69
          case ycy69 => (intro wz hSw; (try dsimp only at hSw); go_simp <;> with_reducible rfl)
          try simp only [Act.put, List.getElem_toArray, List.getElem_cons_zero, List.getElem_cons_succ, List.setIfInBounds_toArray, List.set_cons_zero, List.set_cons_succ]
          refine wpAnyH_take (i := 10) (v := ?_) rfl (by kernel_rfl) (by kernel_rfl) (by kernel_rfl) (fun _ _ _ h => h) (Or.inl ⟨by rfl, ?ycy610⟩) (by assumption) ?qcy610
          case ycy610 => (intro wz hSw; (try dsimp only at hSw); go_simp <;> with_reducible rfl)
          try simp only [Act.put, List.getElem_toArray, List.getElem_cons_zero, List.getElem_cons_succ, List.setIfInBounds_toArray, List.set_cons_zero, List.set_cons_succ]
          refine wpAnyH_take (i := 11) (v := ?_) rfl (by kernel_rfl) (by kernel_rfl) (by kernel_rfl) (fun _ _ _ h => h) (Or.inl ⟨by rfl, ?ycy611⟩) (by assumption) ?qcy611
          case ycy611 => (intro wz hSw; (try dsimp only at hSw); go_simp <;> with_reducible rfl)
          try simp only [Act.put, List.getElem_toArray, List.getElem_cons_zero, List.getElem_cons_succ, List.setIfInBounds_toArray, List.set_cons_zero, List.set_cons_succ]
          refine wpAnyH_take (i := 12) (v := ?_) rfl (by kernel_rfl) (by kernel_rfl) (by kernel_rfl) (fun _ _ _ h => h) (Or.inl ⟨by rfl, ?ycy612⟩) (by assumption) ?qcy612
          case ycy612 => (intro wz hSw; (try dsimp only at hSw); go_simp <;> with_reducible rfl)
          try simp only [Act.put, List.getElem_toArray, List.getElem_cons_zero, List.getElem_cons_succ, List.setIfInBounds_toArray, List.set_cons_zero, List.set_cons_succ]
          refine wpAnyH_take (i := 13) (v := ?_) rfl (by kernel_rfl) (by kernel_rfl) (by kernel_rfl) (fun _ _ _ h => h) (Or.inl ⟨by rfl, ?ycy613⟩) (by assumption) ?qcy613
          case ycy613 => (intro wz hSw; (try dsimp only at hSw); go_simp <;> with_reducible rfl)
          try simp only [Act.put, List.getElem_toArray, List.getElem_cons_zero, List.getElem_cons_succ, List.setIfInBounds_toArray, List.set_cons_zero, List.set_cons_succ]
          refine wpAnyH_take (i := 14) (v := ?_) rfl (by kernel_rfl) (by kernel_rfl) (by kernel_rfl) (fun _ _ _ h => h) (Or.inl ⟨by rfl, ?ycy614⟩) (by assumption) ?qcy614
          case ycy614 => (intro wz hSw; (try dsimp only at hSw); go_simp <;> with_reducible rfl)
          try simp only [Act.put, List.getElem_toArray, List.getElem_cons_zero, List.getElem_cons_succ, List.setIfInBounds_toArray, List.set_cons_zero, List.set_cons_succ]
          refine wpAnyH_take (i := 15) (v := ?_) rfl (by kernel_rfl) (by kernel_rfl) (by kernel_rfl) (fun _ _ _ h => h) (Or.inl ⟨by rfl, ?ycy615⟩) (by assumption) ?qcy615
          case ycy615 => (intro wz hSw; (try dsimp only at hSw); go_simp <;> with_reducible rfl)
          try simp only [Act.put, List.getElem_toArray, List.getElem_cons_zero, List.getElem_cons_succ, List.setIfInBounds_toArray, List.set_cons_zero, List.set_cons_succ]
          refine wpAnyH_ready (rs := [16]) (by kernel_rfl) (by simp) ?_
          refine AllReadyH.cons rfl (fun K hK => ?_) AllReadyH.nil
          go_simp
          refine HADM.out.mono ?_
          rintro e w6 ⟨rfl, hm6⟩
          have HX6 := Lib.hid hm6
          clear hm6
          refine hK.out _ _ (HCM.out _ HX6.out.2.2) (fun hHeldcy616 => ?_)
          clear hK K
          try simp only [Act.put, List.getElem_toArray, List.getElem_cons_zero, List.getElem_cons_succ, List.setIfInBounds_toArray, List.set_cons_zero, List.set_cons_succ]
          refine wpAnyH_take (i := 17) (v := ?_) rfl (by kernel_rfl) (by kernel_rfl) (by kernel_rfl) (fun _ _ _ h => h) (Or.inl ⟨by rfl, ?ycy617⟩) (by assumption) ?qcy617
          case ycy617 => (intro wz hSw; (try dsimp only at hSw); go_simp <;> with_reducible rfl)
          try simp only [Act.put, List.getElem_toArray, List.getElem_cons_zero, List.getElem_cons_succ, List.setIfInBounds_toArray, List.set_cons_zero, List.set_cons_succ]
          refine wpAnyH_take (i := 18) (v := ?_) rfl (by kernel_rfl) (by kernel_rfl) (by kernel_rfl) (fun _ _ _ h => h) (Or.inl ⟨by rfl, ?ycy618⟩) (by assumption) ?qcy618
          case ycy618 => (intro wz hSw; (try dsimp only at hSw); go_simp <;> with_reducible rfl)
          try simp only [Act.put, List.getElem_toArray, List.getElem_cons_zero, List.getElem_cons_succ, List.setIfInBounds_toArray, List.set_cons_zero, List.set_cons_succ]
          refine wpAnyH_done (by kernel_rfl) ?_ _
          clear HADM HM
          clear hHeld0
          have HXX : Hid (WIX w1 Ca Cb Bb ba bb N l i v9 ⟨y0, y1⟩ w6) := Lib.hid (HX6.out.2.1 rfl)
          obtain ⟨z0, z1⟩ := HCM.out _ HXX.out.bel
          have hgm : gm < w6.heap.size := HGM.out gm om (by omega) rfl w6 HXX.out.bel
          clear HX6 hin
          obtain ⟨ad, ho, hal, hcb, happ⟩ := HXX.out.app
          have HO := Lib.hid (And.intro ho (And.intro hal hcb))
          have HAPP := Lib.hid happ
          clear ho hal hcb happ HXX
          go_wp2_with (at_builtin; refine append_pais rfl (.tmp 96) (.tmp 101) rfl (B := Cb) (by have := HO.out.2.2; simp; omega) (HO.out.1 _) rfl (pai_at ⟨y0, y1⟩ (heap_alloc_at _ _ _ (by simp))) rfl (by have := HO.out.2.1; simp only [List.length_cons, List.length_nil]; omega) ?_; intro v8 w8 h8 hg8 _; have HN := Lib.hid (HAPP.out _ v8 w8 h8 hg8); clear h8 hg8)
          go_roundw
          case rel => exact ⟨i + 1, by go_num, by omega, _, rfl, HN⟩
          case measure => simp [intOf]; omega
      · have hexi : ¬ (i : Int) < (Mo : Int) := by omega
        obtain ⟨qa, ad, hw2, had, hown⟩ := HI.out
        rw [List.take_of_length_le (by have := HLL.out; omega)] at had
        obtain ⟨A, hA⟩ : ∃ A, A = ad.length := ⟨_, rfl⟩
        have hA60 : A ≤ 60 := by have := had.2.2.2; omega
        have HD0 : Hid (WD0 w1 Ca Cb Bb ba bb N l ad 0 wr) := Lib.hid ⟨qa, hw2.less (by omega) (Nat.le_refl _), by rw [List.drop_zero]; exact had.mono (by omega) (by omega)⟩
        obtain ⟨pA, cA, hv, hAc⟩ := ownPai_open hown (by omega)
        have HAC := Lib.hid hAc
        rw [← hA] at hv HAC
        subst hv
        have HAA := Lib.hid hA
        have hAi : (A : Int) ≤ 60 := by omega
        obtain ⟨wA, hwA⟩ : ∃ X, X = wr := ⟨_, rfl⟩
        subst hwA
        clear hw2 had hown hAc hA HI hlt hex
        go_wp2_with fail
        go_loopw [105] (fun s105 wr => ∃ j : Nat, s105 = .int .i64 (j : Int) ∧ j ≤ A ∧ Hid (WD0 w1 Ca Cb Bb ba bb N l ad j wr ∧ KF w1.heap.size Ca wA wr)) (fun s105 _ => A - (intOf s105).toNat)
        case atStart => exact ⟨0, rfl, Nat.zero_le _, Lib.hid ⟨HD0.out, KF.refl _ _ _⟩⟩
        case round =>
          clear HD0
          obtain ⟨j, rfl, hj, HJ⟩ := hrel
          by_cases hja : j < A
          · obtain ⟨gA, oA, hpA, hcA⟩ := HAC.out j hja
            subst hpA
            obtain ⟨hgA, a0, a1⟩ := hcA wr ⟨_, _, HJ.out.2⟩
            have hji : (j : Int) < (A : Int) := by omega
            obtain ⟨y, hy⟩ : ∃ y, y = ad.getD j Pai.zero := ⟨_, rfl⟩
            rw [← hy] at a0 a1
            have hbx : ∀ ob, Below wr.heap.size wr (wr.alloc ob) := fun ob => (Below.refl _ _).alloc (Nat.le_refl _) ob
            have HDR := Lib.hid (fun ob => (HJ.out.1.below (hbx ob)).drop HT1.out (by have := HAA.out; omega) (by omega) hy.symm)
            have HKK : Hid (∀ ob w', KF w1.heap.size Ca (wr.alloc ob) w' → KF w1.heap.size Ca wA w') := Lib.hid fun ob w' hk => (HJ.out.2.trans (.of_below (hbx ob))).trans hk
            obtain ⟨y0, y1⟩ := y
            dsimp only at a0 a1 HDR
            clear hcA hy hbx HJ
            go_wp2_with fail
            refine (HDR.out _).mono ?_
            rintro e w5 ⟨rfl, h5, k5⟩
            have HN5 := Lib.hid (And.intro h5 (HKK.out _ _ k5))
            clear h5 k5 HDR HKK a0 a1 hgA
            go_wp2_with fail
            go_roundw
            case rel => exact ⟨j + 1, by go_num, by omega, HN5⟩
            case measure => simp [intOf]; omega
          · have hjA : j = A := by omega
            have HBS : Hid (WB0 w1 Ca Cb Bb ba bb N l 0 wr) := Lib.hid (WB0.start (by have := HJ.out.1; rw [hjA, HAA.out] at this; exact this) (by have := HAA.out; omega))
            have hji : ¬ (j : Int) < (A : Int) := by omega
            clear HJ hja hjA hj HAC
            go_wp2_with fail
            go_loopw [119] (fun s119 wr => ∃ j : Nat, s119 = .int .i64 (j : Int) ∧ j ≤ L ∧ Hid (WB0 w1 Ca Cb Bb ba bb N l j wr)) (fun s119 _ => L - (intOf s119).toNat)
            case atStart => exact ⟨0, rfl, Nat.zero_le _, HBS⟩
            case round =>
              clear HBS
              obtain ⟨j, rfl, hj, HJ⟩ := hrel
              by_cases hjl : j < L
              · obtain ⟨kk, hkk⟩ : ∃ kk, kk = L - 1 - j := ⟨_, rfl⟩
                have hkL : kk < L := by omega
                have hkv : (L : Int) - 1 - (j : Int) = (kk : Int) := by omega
                obtain ⟨gl, ol, hpl, hcl⟩ := HLO.out kk hkL
                subst hpl
                obtain ⟨a0, a1⟩ := hcl wr HJ.out.bel
                have hgl := HGL.out gl ol (by omega) rfl wr HJ.out.bel
                have hji : (j : Int) < (L : Int) := by omega
                have hki : (kk : Int) < (L : Int) := by omega
                obtain ⟨y, hy⟩ : ∃ y, y = l.getD kk Pai.zero := ⟨_, rfl⟩
                rw [← hy] at a0 a1
                have HAD := Lib.hid (fun ob => (HJ.out.below ((Below.refl _ _).alloc (Nat.le_refl _) ob)).add HT1.out (p := y) (by have := HLL.out; omega) (by omega) (by have := HLL.out; rw [hy, hkk, this]))
                obtain ⟨y0, y1⟩ := y
                dsimp only at a0 a1 HAD
                have HJL : Hid (j < L) := Lib.hid hjl
                clear hcl hy HJ hkk
                go_wp2_with fail
                refine (HAD.out _).mono ?_
                rintro e w5 ⟨r5, rfl, h5⟩
                have HN5 := Lib.hid h5
                clear h5 HAD a0 a1 hgl hkv hki hkL
                go_wp2_with fail
                go_roundw
                case rel => exact ⟨j + 1, by go_num, by omega, HN5⟩
                case measure => simp [intOf]; omega
              · have hjL : j = L := by omega
                obtain ⟨q, hq⟩ := WB0.done (by have := HJ.out; rw [hjL, HLL.out] at this; exact this) (by have := HLL.out; omega)
                have HE0 := Lib.hid hq
                have HRG := Lib.hid hq.rng
                have hji : ¬ (j : Int) < (L : Int) := by omega
                clear HJ hjl hjL hj hq
                have hNi : (N : Int) ≤ 30 := by omega
                go_wp2_with fail
                go_loopw [15] (fun s15 wr => ∃ u : Nat, s15 = .int .i64 (u : Int) ∧ u ≤ N ∧ Hid (WE0 w1 Ca Cb Bb ba bb N q wr)) (fun s15 _ => N - (intOf s15).toNat)
                case atStart => exact ⟨0, rfl, Nat.zero_le _, HE0⟩
                case round =>
                  clear HE0
                  obtain ⟨u, rfl, hu, HU⟩ := hrel
                  by_cases hun : u < N
                  · have hui : (u : Int) < (N : Int) := by omega
                    have HRA := Lib.hid (HU.out.rowA HT1.out hun)
                    have hlen : (rowD q (u : Int)).length ≤ N := rowD_len HRG.out u
                    have HSUB : Hid (∀ (i : Nat), i < (rowD q (u : Int)).length → ∃ y : Nat, (rowD q (u : Int)).getD i 0 = (y : Int) ∧ y < N ∧ ∀ i2, i2 < (rowD q (y : Int)).length → (rowD q (y : Int)).getD i2 0 ∈ rowD q (u : Int)) := Lib.hid fun i hi => by
                      have hm := getD_memI hi
                      obtain ⟨y, hy, hyN⟩ := rowD_in HRG.out hm
                      rw [hy] at hm
                      exact ⟨y, hy, hyN, fun i2 hi2 => rowD_trans HRG.out hm (getD_memI hi2)⟩
                    obtain ⟨zs, hzs⟩ : ∃ zs, zs = rowD q (u : Int) := ⟨_, rfl⟩
                    rw [← hzs] at HRA hlen HSUB
                    have HZS := Lib.hid hzs
                    obtain ⟨K, hK⟩ : ∃ K, K = zs.length := ⟨_, rfl⟩
                    rw [← hK] at HSUB hlen
                    have HKK := Lib.hid hK
                    have hKi : (K : Int) ≤ 30 := by omega
                    have HUN := Lib.hid hun
                    clear hzs hK hun
                    go_wp2_with fail
                    refine HRA.out.mono ?_
                    rintro e w5 ⟨v5, rfl, hi5, hb5⟩
                    obtain ⟨p5, c5, hv5⟩ := hi5.form HKK.out.symm
                    subst hv5
                    have HU5 : Hid (WE0 w1 Ca Cb Bb ba bb N q w5 ∧ IK w5 (.slice p5 K c5) zs) := Lib.hid ⟨HU.out.below hb5, hi5⟩
                    have HRB := Lib.hid (HU5.out.1.rowB HT1.out HUN.out)
                    rw [← HZS.out] at HRB
                    clear hi5 hb5 HRA HU
                    go_wp2_with fail
                    refine HRB.out.mono ?_
                    rintro e w6 ⟨v6, rfl, hi6, hb6⟩
                    have HSI := Lib.hid (Lst.sameInts_yes ((HU5.out.2.below hb6).ints (by have := HKK.out; omega)) (hi6.ints (by have := HKK.out; omega)))
                    have HU6 : Hid (WE0 w1 Ca Cb Bb ba bb N q w6 ∧ IK w6 (.slice p5 K c5) zs) := Lib.hid ⟨HU5.out.1.below hb6, HU5.out.2.below hb6⟩
                    clear hi6 hb6 HRB HU5
                    go_wp2_with fail
                    refine HSI.out.mono ?_
                    rintro e w7 ⟨rfl, qq, hw7⟩
                    have HU7 : Hid (WE0 w1 Ca Cb Bb ba bb N q w7 ∧ IK w7 (.slice p5 K c5) zs) := Lib.hid (by
                      have hb7 : Below w6.heap.size w6 w7 := by rw [hw7]; exact below_drewN (Below.refl _ _) qq
                      exact ⟨HU6.out.1.below hb7, HU6.out.2.below hb7⟩)
                    clear hw7 HSI HU6
                    go_wp2_with fail
                    go_loopw [153] (fun s153 wr => ∃ i : Nat, s153 = .int .i64 (i : Int) ∧ i ≤ K ∧ Hid (WE0 w1 Ca Cb Bb ba bb N q wr ∧ IK wr (.slice p5 K c5) zs)) (fun s153 _ => K - (intOf s153).toNat)
                    case atStart => exact ⟨0, rfl, Nat.zero_le _, HU7⟩
                    case round =>
                      clear HU7
                      obtain ⟨i, rfl, hi, HV⟩ := hrel
                      by_cases hik : i < K
                      · obtain ⟨g5, o5, hp5, hg5, a5⟩ := HV.out.2.cells HKK.out.symm hik (by omega)
                        subst hp5
                        obtain ⟨y, hy, hyN, hsub⟩ := HSUB.out i hik
                        rw [hy] at a5
                        have HS2 := Lib.hid hsub
                        have hiki : (i : Int) < (K : Int) := by omega
                        have HRY := Lib.hid (HV.out.1.rowA HT1.out hyN)
                        have hl2 : (rowD q (y : Int)).length ≤ N := rowD_len HRG.out y
                        generalize rowD q (y : Int) = zs2 at HRY HS2 hl2
                        obtain ⟨K2, hK2⟩ : ∃ K, K = zs2.length := ⟨_, rfl⟩
                        rw [← hK2] at HS2 hl2
                        have HK2 := Lib.hid hK2
                        have hK2i : (K2 : Int) ≤ 30 := by omega
                        clear hy hyN hsub hK2
                        go_wp2_with fail
                        refine HRY.out.mono ?_
                        rintro e w8 ⟨v8, rfl, hi8, hb8⟩
                        obtain ⟨p8, c8, hv8⟩ := hi8.form HK2.out.symm
                        subst hv8
                        have HW8 : Hid (WE0 w1 Ca Cb Bb ba bb N q w8 ∧ IK w8 (.slice (some ⟨g5, o5, none⟩) K c5) zs ∧ IK w8 (.slice p8 K2 c8) zs2) := Lib.hid ⟨HV.out.1.below hb8, HV.out.2.below hb8, hi8⟩
                        clear hi8 hb8 HRY a5 hg5 HV
                        go_wp2_with fail
                        go_loopw [161] (fun s161 wr => ∃ i2 : Nat, s161 = .int .i64 (i2 : Int) ∧ i2 ≤ K2 ∧ Hid (WE0 w1 Ca Cb Bb ba bb N q wr ∧ IK wr (.slice (some ⟨g5, o5, none⟩) K c5) zs ∧ IK wr (.slice p8 K2 c8) zs2)) (fun s161 _ => K2 - (intOf s161).toNat)
                        case atStart => exact ⟨0, rfl, Nat.zero_le _, HW8⟩
                        case round =>
                          clear HW8
                          obtain ⟨i2, rfl, hi2, HX⟩ := hrel
                          by_cases hik2 : i2 < K2
                          · obtain ⟨g8, o8, hp8, hg8, a8⟩ := HX.out.2.2.cells HK2.out.symm hik2 (by omega)
                            subst hp8
                            have hm2 := HS2.out i2 hik2
                            have hiki2 : (i2 : Int) < (K2 : Int) := by omega
                            have HIN := Lib.hid (Rf.in_any (zs2.getD i2 0) wr (HX.out.2.1.ints (by have := HKK.out; omega)))
                            rw [decide_eq_true hm2] at HIN
                            generalize zs2.getD i2 0 = z at a8 HIN
                            clear hm2
                            go_wp2_with fail
                            refine HIN.out.mono ?_
                            rintro e _ ⟨rfl, rfl⟩
                            clear HIN a8 hg8
                            go_wp2_with fail
                            go_roundw
                            case rel => exact ⟨i2 + 1, by go_num, by omega, HX⟩
                            case measure => simp [intOf]; omega
                          · have hiki2 : ¬ (i2 : Int) < (K2 : Int) := by omega
                            have HV9 : Hid (WE0 w1 Ca Cb Bb ba bb N q wr ∧ IK wr (.slice (some ⟨g5, o5, none⟩) K c5) zs) := Lib.hid ⟨HX.out.1, HX.out.2.1⟩
                            clear HX
                            go_wp2_with fail
                            go_roundw
                            case rel => exact ⟨i + 1, by go_num, by omega, HV9⟩
                            case measure => simp [intOf]; omega
                      · have hiki : ¬ (i : Int) < (K : Int) := by omega
                        have HU9 : Hid (WE0 w1 Ca Cb Bb ba bb N q wr) := Lib.hid HV.out.1
                        clear HV
                        go_wp2_with fail
                        go_roundw
                        case rel => exact ⟨u + 1, by go_num, by have := HUN.out; omega, HU9⟩
                        case measure => have := HUN.out; simp [intOf]; omega
                  · have HB : Hid (Below w.heap.size w wr) := Lib.hid (HB1.out.trans (HU.out.bel.mono HB1.out.size))
                    have hui : ¬ (u : Int) < (N : Int) := by omega
                    go_wp2
                    go_ret
                    exact ⟨rfl, HB.out⟩
end Go.Proofs.YtakgepdlninnhaaDoor.Cs
