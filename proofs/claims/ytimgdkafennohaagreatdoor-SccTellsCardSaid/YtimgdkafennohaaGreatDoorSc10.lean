/-
  Components: contract of Round. Not a statement of the seat.
-/
import Derived.Test.YtimgdkafennohaaGreatDoorHead21
namespace Go.Proofs.YtimgdkafennohaaGreatDoor.Sc
open Go.ChangeShapes Go.WideShapes Go.ChangeAt Go.RowKit Base F Bits Gr Rf
variable {n : Nat} {w : World}
/-- A row of those that go round, on its way. -/
def RD (n br bw : Nat) (w2 : World) (D : List Nat) (w : World) : Prop := ∃ V, RowAt w br bw n V ∧ (∀ z, V.testBit z = decide (z ∈ D)) ∧ Fr (fun g => g = bw) w2 w
theorem RD.below {n br bw : Nat} {w2 w w' : World} {D : List Nat} (h : RD n br bw w2 D w) (hb : Below w.heap.size w w') : RD n br bw w2 D w' := by
  obtain ⟨V, h1, h2, h3⟩ := h
  exact ⟨V, h1.below hb, h2, h3.trans (Fr.of_below (F := fun _ => False) hb) (fun _ _ e => e.elim)⟩
def TabW (w : World) : Prop := TabAt 0 Lib.deBruijn64tab w ∧ 0 < w.heap.size
theorem TabW.below {w w1 : World} (h : TabW w) (hb : Below w.heap.size w w1) : TabW w1 := ⟨fun j hj => (hb.cell (p := ⟨_, j, none⟩) h.2).trans (h.1 j hj), Nat.lt_of_lt_of_le h.2 hb.size⟩
theorem parts_lt {l : List Arc} {m : List Nat} (hm : m ∈ partsR n (labR l)) : ∀ y ∈ m, y < n := by
  obtain ⟨i, _, _, rfl⟩ := mem_parts.1 hm
  intro y hy
  exact (mem_memR.1 hy).1
theorem cell_fr {bw : Nat} {w w' : World} {g j : Nat} (h : Fr (fun g => g = bw) w w') (hg : g < w.heap.size) (hn : g ≠ bw) : w'.cell? ⟨g, j, none⟩ = w.cell? ⟨g, j, none⟩ := World.cell?_of_block (w := w) (a := ⟨g, j, none⟩) (h.block hg hn)
set_option maxRecDepth 100000 in
set_option maxHeartbeats 8000000 in
theorem round_gen {pv : Option Addr} {l : List Arc} (hn : n ≤ 4096) (mask : Int) (h0 : ∀ x ∈ l, 0 ≤ x.to) (h1 : ∀ x ∈ l, x.to < (n : Int)) (hT : TabW w)
    (hnodes : ∀ X, Below w.heap.size w X → Calls Tryz.prog 24 #[.pointer pv] X (HeldP (.int .i64 (n : Int)) X))
    (hcomps : ∀ X, Below w.heap.size w X → Calls Tryz.prog 15 #[.pointer pv, .int .i64 mask] X (ListsNew ((partsR n (labR l)).map natI) X))
    (hself : ∀ X (v : Nat), Below w.heap.size w X → Calls Tryz.prog 30 #[.pointer pv, .int .i64 mask, .int .i64 (v : Nat)] X (HeldP (.bool (decide (v ∈ nxA l v))) X)) :
    Calls Tryz.prog 13 #[.pointer pv, .int .i64 mask] w (NumN w (natI (roundR l n))) := by
  have HN := Lib.hid hnodes
  have HC := Lib.hid hcomps
  have HSE := Lib.hid hself
  have HNEW := Lib.hid (fun wx => new_any (n : Int) wx)
  have HTW := Lib.hid hT
  have hrl : Bits.rowLen (n : Int) = n := by unfold Bits.rowLen; omega
  rw [hrl] at HNEW
  have hni : (n : Int) ≤ 4096 := by omega
  have HMR := Lib.hid (mem_rounds h0 h1)
  have HPL : Hid (∀ m ∈ partsR n (labR l), (∀ y ∈ m, y < n) ∧ m.length ≤ n) := Lib.hid fun m hm => ⟨parts_lt hm, by
    obtain ⟨i, _, _, rfl⟩ := mem_parts.1 hm
    unfold memR
    exact Nat.le_trans (List.length_filter_le _ _) (by simp)⟩
  have HPN : Hid ((partsR n (labR l)).length ≤ n) := Lib.hid (by
    unfold partsR
    rw [List.length_map]
    exact Nat.le_trans (List.length_filter_le _ _) (by simp))
  obtain ⟨ps, hps⟩ : ∃ ps, ps = partsR n (labR l) := ⟨_, rfl⟩
  rw [← hps] at HC HMR HPL HPN
  clear hnodes hcomps hself hT hrl h0 h1 hps
  go_enter Tryz.func13, Tryz.ntmps13
  go_wp2_with fail
  refine (HN.out _ (Below.refl _ _)).mono ?_
  rintro e w0 ⟨rfl, hb0⟩
  have HB0 := Lib.hid hb0
  clear hb0
  go_wp2_with fail
  refine (HNEW.out _).mono ?_
  rintro e w1 ⟨rfl, hr1, hb1⟩
  obtain ⟨br, hbr⟩ : ∃ br, br = w0.heap.size + 1 := ⟨_, rfl⟩
  obtain ⟨bw, hbw⟩ : ∃ bw, bw = w0.heap.size := ⟨_, rfl⟩
  rw [← hbr] at hr1 ⊢
  rw [← hbw] at hr1
  have HR1 := Lib.hid hr1
  have HB1 := Lib.hid (hbt HB0.out hb1)
  have hbwle : w.heap.size ≤ bw := by rw [hbw]; exact HB0.out.size
  have hbwlt : bw < w1.heap.size := heap_lt hr1.2.1
  have HBW := Lib.hid (And.intro hbwle hbwlt)
  clear hr1 hb1 hbr hbw hbwle hbwlt HNEW
  go_wp2_with fail
  refine (HC.out _ HB1.out).mono ?_
  rintro e w2 ⟨lv, rfl, ⟨g, c, ts, cur, hlv, hge, hgb, htl, hcur, hown⟩, hb2⟩
  rw [List.length_map] at hlv htl
  subst hlv
  have HB2 := Lib.hid (hbt HB1.out hb2)
  obtain ⟨N, hN⟩ : ∃ N, N = ps.length := ⟨_, rfl⟩
  have hNn : (N : Int) ≤ 4096 := by have := HPN.out; omega
  rw [← hN] at htl ⊢
  have HP : Hid (∀ j, j < N → ∃ m, ps.take (j + 1) = ps.take j ++ [m] ∧ m ∈ ps ∧ ∃ (p : Option Addr) (c' : Nat), (∀ W, Fr (fun g => g = bw) w2 W → W.cell? ⟨g, j, none⟩ = some (.slice p m.length c')) ∧ (0 < m.length → ∃ g3 o3, p = some ⟨g3, o3, none⟩) ∧ ∀ i, i < m.length → ∃ y, m.take (i + 1) = m.take i ++ [y] ∧ y < n ∧ m.getD i 0 = y ∧ ∀ g3 o3, p = some ⟨g3, o3, none⟩ → ∀ W, Fr (fun g => g = bw) w2 W → W.cell? ⟨g3, o3 + i, none⟩ = some (.int .i64 (y : Nat))) := Lib.hid fun j hj => by
    have hj2 : j < ps.length := by omega
    have hm := List.getElem_mem hj2
    refine ⟨ps[j], List.take_succ_eq_append_getElem hj2, hm, ?_⟩
    have ho := hown j (by omega)
    have e1 : (ps.map natI).getD j [] = natI ps[j] := by simp [List.getD_eq_getElem?_getD, hj2]
    rw [e1] at ho
    obtain ⟨t, ht⟩ : ∃ t, t = ts.getD j default := ⟨_, rfl⟩
    rw [← ht] at ho
    have htn := own_n ho
    rw [natI_len] at htn
    have hc1 : w2.cell? ⟨g, j, none⟩ = some t.enc := by
      simp only [World.cell?, hgb]
      have := hcur j (by omega)
      rw [← ht] at this
      simpa using this
    unfold Tri.enc at hc1
    rw [htn] at hc1
    refine ⟨t.p, t.c, fun W hW => (cell_fr hW (heap_lt hgb) (by have := HBW.out.2; omega)).trans hc1, fun h0 => ?_, fun i hi => ⟨ps[j][i], List.take_succ_eq_append_getElem hi, (HPL.out _ hm).1 _ (List.getElem_mem hi), by simp [List.getD_eq_getElem?_getD, hi], fun g3 o3 hp W hW => ?_⟩⟩
    · rcases ho.form with ⟨h2, _⟩ | ⟨g3, cap, hv, _⟩
      · have := congrArg List.length h2
        rw [natI_len] at this
        simp at this
        rw [this] at h0
        simp at h0
      · unfold Tri.enc at hv
        injection hv with hv _ _
        exact ⟨g3, 0, hv⟩
    · have hlt := World.ownsRow.lt ho g3 (by unfold Tri.enc; rw [hp]; rfl)
      rw [cell_fr hW hlt.2 (by have := HBW.out.2; omega)]
      have hml := (HPL.out _ hm).2
      rcases ho.ints (by rw [natI_len]; omega) with ⟨_, h1⟩ | ⟨g', o'', c'', h1, _, _, _, h2⟩
      · have := congrArg List.length h1
        rw [natI_len] at this
        simp at this
        rw [this] at hi
        simp at hi
      · unfold Tri.enc at h1
        injection h1 with h1 _ _
        rw [hp] at h1
        injection h1 with h1
        injection h1 with h1 h3
        subst h1 h3
        rw [h2 i (by rw [natI_len]; exact hi), natI_nat hi]
  have H0 : Hid (RD n br bw w2 (rounds l (ps.take 0)) w2) := Lib.hid ⟨0, HR1.out.below hb2, fun z => by simp [rounds], Fr.refl _ _⟩
  have HNP : Hid (ps.take N = ps) := Lib.hid (by rw [hN, List.take_length])
  have HFB : Hid (∀ W, Fr (fun g => g = bw) w2 W → Below w.heap.size w W) := Lib.hid fun W hW => HB2.out.trans (hW.below (fun g e => by rw [e]; exact HBW.out.1) HB2.out.size)
  clear hge hgb htl hcur hown hb2 hN HR1 HB1 HC
  go_wp2_with fail
  go_loopw [17] (fun s17 wr => ∃ j : Nat, s17 = .int .i64 (j : Int) ∧ j ≤ N ∧ Hid (RD n br bw w2 (rounds l (ps.take j)) wr)) (fun s17 _ => N - (intOf s17).toNat)
  case atStart => exact ⟨0, rfl, Nat.zero_le _, H0⟩
  case round =>
    clear H0
    obtain ⟨j, rfl, hj, HJ⟩ := hrel
    by_cases hlt : j < N
    · obtain ⟨m, htk, hmm, p, c', hcp, hpp, hel⟩ := HP.out j hlt
      have HTK := Lib.hid htk
      have HPP := Lib.hid hpp
      have hx := hcp _ HJ.out.choose_spec.2.2
      have hml := (HPL.out m hmm).2
      have HM2 : Hid (∀ i, i < m.length → ∃ y, m.take (i + 1) = m.take i ++ [y] ∧ y < n ∧ m.getD i 0 = y ∧ ∀ g3 o3, p = some ⟨g3, o3, none⟩ → ∀ W, Fr (fun g => g = bw) w2 W → W.cell? ⟨g3, o3 + i, none⟩ = some (.int .i64 (y : Nat))) := Lib.hid hel
      have HMT : Hid (m.take m.length = m) := Lib.hid (List.take_length)
      have HD0 : Hid (RD n br bw w2 (rounds l (ps.take j) ++ m.take 0) wr) := Lib.hid (by rw [List.take_zero, List.append_nil]; exact HJ.out)
      obtain ⟨mn, hmn⟩ : ∃ mn, mn = m.length := ⟨_, rfl⟩
      have HLEN := Lib.hid hmn
      rw [← hmn] at hx hml HM2 HPP HMT
      have hmi : (mn : Int) ≤ 4096 := by omega
      clear htk hmm hcp hpp hel hmn
      by_cases hone : mn = 1
      · subst hone
        obtain ⟨y, hy1, hyn, hyd, hyc⟩ := HM2.out 0 (by omega)
        obtain ⟨g3, o3, rfl⟩ := HPP.out (by omega)
        have hc0 := hyc g3 o3 rfl wr HJ.out.choose_spec.2.2
        rw [Nat.add_zero] at hc0
        have hhd : m.headD 0 = y := by
          rw [← hyd]
          cases m <;> rfl
        have HSC := Lib.hid (HSE.out wr y (HFB.out wr HJ.out.choose_spec.2.2))
        by_cases hs : y ∈ nxA l y
        · have HLN : Hid (loneB l m = false) := Lib.hid (by unfold loneB; rw [hhd, decide_eq_true hs]; simp)
          rw [decide_eq_true hs] at HSC
          clear hs hhd hyc hyd hy1 hyn HJ HPP
          have HPP : Hid (0 < 1 → ∃ g4 o4, some (⟨g3, o3, none⟩ : Addr) = some ⟨g4, o4, none⟩) := Lib.hid fun _ => ⟨g3, o3, rfl⟩
          go_wp2_with fail
          refine HSC.out.mono ?_
          rintro e w5 ⟨rfl, hb5⟩
          replace HD0 := Lib.hid (HD0.out.below hb5)
          clear hb5 HSC hc0 hx
          go_wp2_with fail
          go_loopw [35] (fun s35 wi => ∃ i : Nat, s35 = .int .i64 (i : Int) ∧ i ≤ 1 ∧ Hid (RD n br bw w2 (rounds l (ps.take j) ++ m.take i) wi)) (fun s35 _ => 1 - (intOf s35).toNat)
          case atStart => exact ⟨0, rfl, Nat.zero_le _, HD0⟩
          case round =>
            clear HD0
            obtain ⟨i, rfl, hi, HI⟩ := hrel
            by_cases hil : i < 1
            · obtain ⟨y, hy1, hyn, _, hyc⟩ := HM2.out i hil
              obtain ⟨V, hR, hV, hF⟩ := HI.out
              obtain ⟨g5, o5, hp5⟩ := HPP.out (by omega)
              have hc := hyc _ _ hp5 _ hF
              first | subst hp5 | (injection hp5 with hp5; injection hp5 with h5 h6; subst h5 h6)
              have HSET := Lib.hid (set_any br bw n V (y : Int) true wr hR)
              have HK : Hid (∀ e w', SetPost br bw n V (y : Int) true wr e w' → RD n br bw w2 (rounds l (ps.take j) ++ m.take (i + 1)) w') := Lib.hid fun e w' hp => ⟨_, hp.2.1, fun z => by rw [hy1, ← List.append_assoc]; exact set_mem hV hyn z, hF.trans (Fr.of_grown (F := fun g => g = bw) hp.2.2 (fun k e => (Option.some.inj e).symm)) (fun _ _ e => e)⟩
              clear hR hV hF hyc HI hy1
              go_wp2_with fail
              refine HSET.out.mono ?_
              intro e w6 hp
              have he := hp.1
              subst he
              have HN := Lib.hid (HK.out _ _ hp)
              clear hp HK HSET
              go_wp2_with fail
              go_roundw
              case rel => exact ⟨i + 1, by go_num, by omega, HN⟩
              case measure => simp [intOf]; omega
            · have e : i = 1 := by omega
              subst e
              have HN : Hid (RD n br bw w2 (rounds l (ps.take (j + 1))) wr) := Lib.hid (by rw [HTK.out, rounds_snoc, if_neg (by rw [HLN.out]; simp)]; have h := HI.out; rw [HMT.out] at h; exact h)
              clear HI HM2
              go_wp2_with fail
              go_roundw
              case rel => exact ⟨j + 1, by go_num, by omega, HN⟩
              case measure => simp [intOf]; omega
        · have HLN : Hid (loneB l m = true) := Lib.hid (by unfold loneB; rw [hhd, decide_eq_false hs, ← HLEN.out]; simp)
          rw [decide_eq_false hs] at HSC
          have HD1 : Hid (RD n br bw w2 (rounds l (ps.take (j + 1))) wr) := Lib.hid (by rw [HTK.out, rounds_snoc, if_pos HLN.out]; exact HJ.out)
          clear hs hhd hyc hyd hy1 hyn HJ HPP HD0 HM2
          go_wp2_with fail
          refine HSC.out.mono ?_
          rintro e w5 ⟨rfl, hb5⟩
          have HN5 := Lib.hid (HD1.out.below hb5)
          clear hb5 HSC hc0 hx HD1
          go_wp2_with fail
          go_roundw
          case rel => exact ⟨j + 1, by go_num, by omega, HN5⟩
          case measure => simp [intOf]; omega
      · have HLN : Hid (loneB l m = false) := Lib.hid (by unfold loneB; rw [← HLEN.out, decide_eq_false hone]; rfl)
        have hone2 : ((mn : Int) == 1) = false := by rw [beq_eq_false_iff_ne]; omega
        clear HJ
        go_wp2_with fail
        go_loopw [35] (fun s35 wi => ∃ i : Nat, s35 = .int .i64 (i : Int) ∧ i ≤ mn ∧ Hid (RD n br bw w2 (rounds l (ps.take j) ++ m.take i) wi)) (fun s35 _ => mn - (intOf s35).toNat)
        case atStart => exact ⟨0, rfl, Nat.zero_le _, HD0⟩
        case round =>
          clear HD0
          obtain ⟨i, rfl, hi, HI⟩ := hrel
          by_cases hil : i < mn
          · obtain ⟨y, hy1, hyn, _, hyc⟩ := HM2.out i hil
            obtain ⟨V, hR, hV, hF⟩ := HI.out
            obtain ⟨g5, o5, hp5⟩ := HPP.out (by omega)
            have hc := hyc _ _ hp5 _ hF
            first | subst hp5 | (injection hp5 with hp5; injection hp5 with h5 h6; subst h5 h6)
            have HSET := Lib.hid (set_any br bw n V (y : Int) true wr hR)
            have HK : Hid (∀ e w', SetPost br bw n V (y : Int) true wr e w' → RD n br bw w2 (rounds l (ps.take j) ++ m.take (i + 1)) w') := Lib.hid fun e w' hp => ⟨_, hp.2.1, fun z => by rw [hy1, ← List.append_assoc]; exact set_mem hV hyn z, hF.trans (Fr.of_grown (F := fun g => g = bw) hp.2.2 (fun k e => (Option.some.inj e).symm)) (fun _ _ e => e)⟩
            clear hR hV hF hyc HI hy1
            go_wp2_with fail
            refine HSET.out.mono ?_
            intro e w6 hp
            have he := hp.1
            subst he
            have HN := Lib.hid (HK.out _ _ hp)
            clear hp HK HSET
            go_wp2_with fail
            go_roundw
            case rel => exact ⟨i + 1, by go_num, by omega, HN⟩
            case measure => simp [intOf]; omega
          · have e : i = mn := by omega
            subst e
            have HN : Hid (RD n br bw w2 (rounds l (ps.take (j + 1))) wr) := Lib.hid (by rw [HTK.out, rounds_snoc, if_neg (by rw [HLN.out]; simp)]; have h := HI.out; rw [HMT.out] at h; exact h)
            clear HI HM2
            go_wp2_with fail
            go_roundw
            case rel => exact ⟨j + 1, by go_num, by omega, HN⟩
            case measure => simp [intOf]; omega
    · have e : j = N := by omega
      subst e
      have hrd := HJ.out
      rw [HNP.out] at hrd
      obtain ⟨V, hR, hV, hF⟩ := hrd
      have hbw := HFB.out _ hF
      have HLI : Hid (Calls Tryz.prog 32 #[.pointer (some ⟨br, 0, none⟩)] wr fun e w' => (∃ v, e = .returned v ∧ Lst.OwnI wr.heap.size w' v (natI (roundR l n))) ∧ Below wr.heap.size wr w') := Lib.hid (by
        have h := rowList_any br bw n V wr hR (HTW.out.below hbw).1 (HTW.out.below hbw).2
        rw [row_rounds (fun y => by rw [hV, decide_eq_decide]; exact HMR.out y)] at h
        exact h)
      have HBW2 := Lib.hid hbw
      clear hR hV hF hbw HJ HP
      go_wp2_with fail
      refine HLI.out.mono ?_
      rintro e w6 ⟨⟨v, rfl, ho⟩, hb6⟩
      have H6 := Lib.hid (And.intro (own_low ho HBW2.out.size) (hbt HBW2.out hb6))
      clear ho hb6 HLI
      go_wp2_with fail
      go_ret
      exact ⟨v, rfl, H6.out.1, H6.out.2⟩
end Go.Proofs.YtimgdkafennohaaGreatDoor.Sc
