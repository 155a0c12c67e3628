/-
  Components: contracts of the document's Labels, Members, Round, Room: the walks. Not a statement of the seat.
-/
import Derived.Test.YtimgdkafennohaaGreatDoorHead21
namespace Go.Proofs.YtimgdkafennohaaGreatDoor.Sc
open Go.ChangeShapes Go.WideShapes Go.ChangeAt Go.RowKit Base F Bits Gr Rf
theorem room_any (n : Int) (w : World) : Calls Tryz.prog 6 #[.int .i64 n] w fun e w' => e = .returned (.int .i64 (roomL n : Nat)) ∧ w = w' := by
  have hc : (n < 0 ∧ roomL n = 0) ∨ (0 ≤ n ∧ n ≤ 4096 ∧ n = ((roomL n : Nat) : Int)) ∨ (4096 < n ∧ roomL n = 4096) := by unfold roomL; omega
  generalize roomL n = r at hc ⊢
  rcases hc with ⟨h1, rfl⟩ | ⟨h1, h2, rfl⟩ | ⟨h1, rfl⟩
  · go_enter Tryz.func6, Tryz.ntmps6
    go_wp2
    go_ret
    exact ⟨rfl, rfl⟩
  · go_enter Tryz.func6, Tryz.ntmps6
    go_wp2
    go_ret
    exact ⟨rfl, rfl⟩
  · have h2 : 0 ≤ n := by omega
    go_enter Tryz.func6, Tryz.ntmps6
    go_wp2
    go_ret
    exact ⟨rfl, rfl⟩
theorem natI_range_succ (f : Nat → Nat) (j : Nat) : natI ((List.range (j + 1)).map f) = natI ((List.range j).map f) ++ [((f j : Nat) : Int)] := by
  rw [List.range_succ]
  simp [natI]
theorem reachR_len (l : List Arc) (s : Int) (hl : l.length ≤ 60) : (reachR l s).length ≤ 5000 := by
  have := outR_len l s (l.length + 1) 0 hl (by omega)
  exact this
/-- The two tests of a label. -/
def pairB (l : List Arc) (i k : Nat) : Bool := decide ((k : Int) ∈ reachR l (i : Int)) && decide ((i : Int) ∈ reachR l (k : Int))
set_option maxRecDepth 100000 in
set_option maxHeartbeats 8000000 in
theorem rlabels_any {v : Value} {l : List Arc} (n : Nat) (w : World) (h : Arcs 0 w v l) (hl : l.length ≤ 60) (hn : n ≤ 12) : Calls Tryz.prog 10 #[.int .i64 (n : Nat), v] w (NumN w (natI ((List.range n).map (labR l)))) := by
  obtain ⟨pl, cl, rfl, _⟩ := h.open_
  have HRE : Hid (∀ W (s : Int), Below w.heap.size w W → Calls Tryz.prog 21 #[.slice pl l.length cl, .int .i64 s] W (NumN W (reachR l s))) := Lib.hid fun W s hW => reach_any s W (h.below hW) hl
  have HRL : Hid (∀ s, (reachR l s).length ≤ 5000) := Lib.hid fun s => reachR_len l s hl
  obtain ⟨R, hR⟩ : ∃ R : Nat → List Int, R = fun k : Nat => reachR l (k : Int) := ⟨_, rfl⟩
  have HR : Hid (∀ k : Nat, R k = reachR l (k : Int)) := Lib.hid fun k => by rw [hR]
  have hni : (n : Int) ≤ 12 := by omega
  have H0 := Lib.hid (AL.start w)
  generalize l.length = M at HRE ⊢
  clear h hl hR hn
  go_enter Tryz.func10, Tryz.ntmps10
  go_wp2_with fail
  go_loopw [5, 6] (fun s5 s6 wr => ∃ (i : Nat) (u : Value), s6 = .int .i64 (i : Int) ∧ u = s5 ∧ i ≤ n ∧ Hid (∃ vs, AL w.heap.size w wr u vs ((List.range i).map R))) (fun _ s6 _ => n - (intOf s6).toNat)
  case atStart => exact ⟨0, _, rfl, rfl, Nat.zero_le _, Lib.hid ⟨[], H0.out⟩⟩
  case round =>
    clear H0
    obtain ⟨i, u, rfl, rfl, hi, HA⟩ := hrel
    obtain ⟨vs, hal⟩ := HA.out
    by_cases hlt : i < n
    · have hii : (i : Int) < (n : Int) := by omega
      have HC := Lib.hid (HRE.out wr (i : Int) hal.below)
      have HAL := Lib.hid hal
      have hvl : vs.length = i := by rw [hal.len]; simp
      have HVL := Lib.hid hvl
      clear HA hal hvl
      go_wp2_with fail
      refine HC.out.mono ?_
      rintro e w1 ⟨v19, rfl, ho, hb⟩
      obtain ⟨p9, n9, c9, hv9⟩ : ∃ p n c, v19 = .slice p n c := by
        rcases ho.form with ⟨_, hv⟩ | ⟨g, cap, hv, _⟩
        · exact ⟨_, _, _, hv⟩
        · exact ⟨_, _, _, hv⟩
      subst hv9
      have HA1 := Lib.hid (HAL.out.below_ hb)
      have HO1 : Hid (Lst.OwnI w.heap.size w1 (.slice p9 n9 c9) (R i)) := Lib.hid (by rw [HR.out]; exact own_down ho HAL.out.size)
      clear ho hb HC HAL
      go_wp2_with (at_builtin; refine append_sl rfl (.tmp 16) (.tmp 20) rfl (B := w.heap.size) (vs := vs) (Nat.le_trans HA1.out.size (by simp)) (World.ownsRow.alloc HA1.out.own _) rfl (heap_alloc_at _ _ _ rfl) rfl rfl (by have := HVL.out; omega) ?_; intro v2 w2 ho2 hg2)
      have HA2 := Lib.hid (HA1.out.app HO1.out ho2 hg2)
      have HRS : Hid ((List.range i).map R ++ [R i] = (List.range (i + 1)).map R) := Lib.hid (by rw [List.range_succ]; simp)
      rw [HRS.out] at HA2
      clear ho2 hg2 HA1 HO1
      go_wp2_with fail
      go_roundw
      case rel => exact ⟨i + 1, v2, by go_num, rfl, by omega, Lib.hid ⟨_, HA2.out⟩⟩
      case measure => simp [intOf]; omega
    · have e : i = n := by omega
      subst e
      have HGET : Hid (∀ k, k < i → ∃ g c p n' c', u = .slice (some ⟨g, 0, none⟩) i c ∧ ∀ W, Below wr.heap.size wr W → W.cell? ⟨g, k, none⟩ = some (.slice p n' c') ∧ Lst.Ints 0 W (.slice p n' c') (R k)) := Lib.hid fun k hk => by
        have hk2 : k < ((List.range i).map R).length := by simpa using hk
        have hgd : ((List.range i).map R).getD k [] = R k := by simp [List.getD_eq_getElem?_getD, hk]
        obtain ⟨g, c, p, n', c', h1, h2⟩ := hal.get hk2 (by rw [hgd, HR.out]; have := HRL.out (k : Int); omega)
        rw [hgd] at h2
        exact ⟨g, c, p, n', c', by simpa using h1, h2⟩
      have HBW := Lib.hid hal.below
      have HSZ := Lib.hid hal.size
      have HLF : Hid (∀ m : Nat, labR l m = labF (pairB l m) m m) := Lib.hid fun m => rfl
      obtain ⟨wB, hwB⟩ : ∃ wB, wB = wr := ⟨_, rfl⟩
      subst hwB
      clear HA hal HRE hi hlt
      go_wp2_with fail
      go_loopw [7, 8] (fun s7 s8 wr => ∃ (j : Nat) (z : Value), s8 = .int .i64 (j : Int) ∧ z = s7 ∧ j ≤ i ∧ Hid (Lst.OwnI wB.heap.size wr z (natI ((List.range j).map (labR l))) ∧ Below wB.heap.size wB wr)) (fun _ s8 _ => i - (intOf s8).toNat)
      case atStart => exact ⟨0, _, rfl, rfl, Nat.zero_le _, Lib.hid ⟨Lst.OwnI.nil _ _, Below.refl _ _⟩⟩
      case round =>
        obtain ⟨j, z, rfl, rfl, hj, HO⟩ := hrel
        by_cases hlt : j < i
        · have hji : (j : Int) < (i : Int) := by omega
          have HL0 : Hid (labF (pairB l j) j j = labR l j) := Lib.hid (HLF.out j).symm
          obtain ⟨wC, hwC⟩ : ∃ wC, wC = wr := ⟨_, rfl⟩
          subst hwC
          obtain ⟨g, c, p1, n1, c1, rfl, hg1⟩ := HGET.out j hlt
          go_wp2_with fail
          go_loop [9, 10] (fun s9 s10 => ∃ (k r : Nat) (m : Int), s10 = .int .i64 m ∧ m = (k : Int) - 1 ∧ s9 = .int .i64 (r : Int) ∧ k ≤ j ∧ Hid (labF (pairB l j) k r = labR l j)) (fun _ s10 => (intOf s10 + 1).toNat)
          case atStart => exact ⟨j, j, _, rfl, rfl, rfl, Nat.le_refl _, HL0⟩
          case round =>
            clear HL0
            obtain ⟨k, r, m, rfl, hm, rfl, hk, HL⟩ := hrel
            rcases k with _ | k
            · have HL1 : Hid (r = labR l j) := Lib.hid HL.out
              have hm1 : m = -1 := by omega
              subst hm1
              have HNE : Hid ((natI ((List.range j).map (labR l))).length ≤ 12) := Lib.hid (by simp [natI]; omega)
              have hsz := HO.out.2.size
              clear HL hm hg1
              go_wp2_with (at_builtin; refine Lst.append_ints rfl (.tmp 49) (.tmp 51) rfl (B := wB.heap.size) (zs := natI ((List.range j).map (labR l))) (ys := [(r : Int)]) (Nat.le_trans hsz (by simp)) (HO.out.1.lay rfl _) rfl (Lst.int_lit (r : Int) _) (fun n c e => by cases e) rfl (by have := HNE.out; simp; omega) ?_; intro v2 w3 ho hg2 hat)
              have HN : Hid (Lst.OwnI wB.heap.size w3 v2 (natI ((List.range (j + 1)).map (labR l))) ∧ Below wB.heap.size wB w3) := Lib.hid ⟨by rw [natI_range_succ, ← HL1.out]; exact ho, by
                have hb : Below wC.heap.size wC (wC.alloc (.cells #[.int .i64 (r : Int)] 3)) := (Below.refl _ _).alloc (Nat.le_refl _) _
                exact (HO.out.2.trans (hb.mono hsz)).grown hg2 (Nat.le_trans hsz hb.size) (fun q hq => Lst.own_base HO.out.1 q hq)⟩
              clear ho hg2 hat HO HNE
              go_wp2_with fail
              go_roundw
              case rel => exact ⟨j + 1, v2, by go_num, rfl, by omega, HN⟩
              case measure => simp [intOf]; omega
            · have hm1 : m = (k : Int) := by omega
              subst hm1
              have hki : (k : Int) < (i : Int) := by omega
              obtain ⟨g', c', p2, n2, c2, hg, hg2⟩ := HGET.out k (by omega)
              injection hg with hg3 _ hg4
              injection hg3 with hg3
              injection hg3 with hg3
              subst hg3
              obtain ⟨d1, i1⟩ := hg1 wC HO.out.2
              obtain ⟨d2, i2⟩ := hg2 wC HO.out.2
              have HI1 := Lib.hid (in_any (k : Int) wC i1)
              have HI2 := Lib.hid (in_any (j : Int) wC i2)
              rw [HR.out] at HI1 HI2
              have HLS : Hid (labF (pairB l j) k (if pairB l j k = true then k else r) = labR l j) := Lib.hid (by have h := HL.out; rw [labF] at h; exact h)
              clear i1 i2 hm HL hg4
              by_cases b1 : (k : Int) ∈ reachR l (j : Int)
              · rw [decide_eq_true b1] at HI1
                by_cases b2 : (j : Int) ∈ reachR l (k : Int)
                · rw [decide_eq_true b2] at HI2
                  have HL2 : Hid (labF (pairB l j) k k = labR l j) := Lib.hid (by have h := HLS.out; rw [if_pos (show pairB l j k = true by unfold pairB; rw [decide_eq_true b1, decide_eq_true b2]; rfl)] at h; exact h)
                  clear b1 b2 HLS
                  go_wp2_with fail
                  refine HI1.out.mono ?_
                  rintro e w9 ⟨rfl, rfl⟩
                  go_wp2_with fail
                  refine HI2.out.mono ?_
                  rintro e w9 ⟨rfl, rfl⟩
                  go_wp2_with fail
                  go_round
                  case rel => exact ⟨k, k, _, rfl, by omega, rfl, by omega, HL2⟩
                  case measure => simp [intOf] <;> omega
                · rw [decide_eq_false b2] at HI2
                  have HL2 : Hid (labF (pairB l j) k r = labR l j) := Lib.hid (by have h := HLS.out; rw [if_neg (show ¬ pairB l j k = true by unfold pairB; rw [decide_eq_true b1, decide_eq_false b2]; simp)] at h; exact h)
                  clear b1 b2 HLS
                  go_wp2_with fail
                  refine HI1.out.mono ?_
                  rintro e w9 ⟨rfl, rfl⟩
                  go_wp2_with fail
                  refine HI2.out.mono ?_
                  rintro e w9 ⟨rfl, rfl⟩
                  go_wp2_with fail
                  go_round
                  case rel => exact ⟨k, r, _, rfl, by omega, rfl, by omega, HL2⟩
                  case measure => simp [intOf] <;> omega
              · rw [decide_eq_false b1] at HI1
                have HL2 : Hid (labF (pairB l j) k r = labR l j) := Lib.hid (by have h := HLS.out; rw [if_neg (show ¬ pairB l j k = true by unfold pairB; rw [decide_eq_false b1]; simp)] at h; exact h)
                clear b1 HLS HI2
                go_wp2_with fail
                refine HI1.out.mono ?_
                rintro e w9 ⟨rfl, rfl⟩
                go_wp2_with fail
                go_round
                case rel => exact ⟨k, r, _, rfl, by omega, rfl, by omega, HL2⟩
                case measure => simp [intOf] <;> omega
        · have e : j = i := by omega
          subst e
          have HF := Lib.hid (And.intro (own_down HO.out.1 HSZ.out) (hbt HBW.out HO.out.2))
          clear HO
          go_wp2
          go_ret
          exact ⟨z, rfl, HF.out.1, HF.out.2⟩
theorem labI_memR (lab : Nat → Nat) (i j : Nat) : natI (memR (j + 1) lab i) = if lab j = i then natI (memR j lab i) ++ [(j : Int)] else natI (memR j lab i) := by
  rw [memR_snoc]
  split
  · simp [natI]
  · rfl
set_option maxRecDepth 100000 in
set_option maxHeartbeats 4000000 in
theorem rmembers_any {v : Value} {n : Nat} {lab : Nat → Nat} (i : Nat) (w : World) (h : Lst.Ints 0 w v (natI ((List.range n).map lab))) (hn : n ≤ 12) : Calls Tryz.prog 16 #[v, .int .i64 (i : Nat)] w (NumN w (natI (memR n lab i))) := by
  have hll : (natI ((List.range n).map lab)).length = n := by simp [natI]
  obtain ⟨p, c, hv, _, hc⟩ := h.open_
  rw [hll] at hv hc
  subst hv
  have HC : Hid (∀ j, j < n → ∃ g o, p = some ⟨g, o, none⟩ ∧ ∀ W, Below w.heap.size w W → W.cell? ⟨g, o + j, none⟩ = some (.int .i64 ((lab j : Nat) : Int))) := Lib.hid fun j hj => by
    obtain ⟨g, o, h1, _, h2, h3⟩ := hc j hj
    refine ⟨g, o, h1, fun W hW => ((hW.cell (p := ⟨g, o + j, none⟩) h2).trans h3).trans ?_⟩
    simp [natI, List.getD_eq_getElem?_getD, hj]
  have hni : (n : Int) ≤ 12 := by omega
  clear h hc hll
  go_enter Tryz.func16, Tryz.ntmps16
  go_wp2_with fail
  go_loopw [5, 10] (fun s5 s10 wr => ∃ (j : Nat) (z : Value), s10 = .int .i64 (j : Int) ∧ z = s5 ∧ j ≤ n ∧ Hid (Lst.OwnI w.heap.size wr z (natI (memR j lab i)) ∧ Below w.heap.size w wr)) (fun _ s10 _ => n - (intOf s10).toNat)
  case atStart => exact ⟨0, _, rfl, rfl, Nat.zero_le _, Lib.hid ⟨Lst.OwnI.nil _ _, Below.refl _ _⟩⟩
  case round =>
    obtain ⟨j, z, rfl, rfl, hj, HO⟩ := hrel
    by_cases hlt : j < n
    · obtain ⟨g, o, rfl, hc⟩ := HC.out j hlt
      have hc := hc wr HO.out.2
      have HS := Lib.hid (labI_memR lab i j)
      have hji : (j : Int) < (n : Int) := by omega
      have HNE : Hid ((natI (memR j lab i)).length ≤ 12) := Lib.hid (by rw [natI_len]; unfold memR; exact Nat.le_trans (List.length_filter_le _ _) (by simp; omega))
      have hsz := HO.out.2.size
      by_cases hb : lab j = i
      · have HS2 : Hid (natI (memR (j + 1) lab i) = natI (memR j lab i) ++ [(j : Int)]) := Lib.hid (by rw [HS.out, if_pos hb])
        rw [hb] at hc
        clear hb HS
        go_wp2_with (at_builtin; refine Lst.append_ints rfl (.tmp 18) (.tmp 20) rfl (B := w.heap.size) (zs := natI (memR j lab i)) (ys := [(j : Int)]) (Nat.le_trans hsz (by simp)) (HO.out.1.lay rfl _) rfl (Lst.int_lit (j : Int) _) (fun n c e => by cases e) rfl (by have := HNE.out; simp; omega) ?_; intro v2 w3 ho hg2 hat)
        have HN : Hid (Lst.OwnI w.heap.size w3 v2 (natI (memR (j + 1) lab i)) ∧ Below w.heap.size w w3) := Lib.hid ⟨by rw [HS2.out]; exact ho, by
          have hb : Below wr.heap.size wr (wr.alloc (.cells #[.int .i64 (j : Int)] 3)) := (Below.refl _ _).alloc (Nat.le_refl _) _
          exact (HO.out.2.trans (hb.mono hsz)).grown hg2 (Nat.le_trans hsz hb.size) (fun q hq => Lst.own_base HO.out.1 q hq)⟩
        clear ho hg2 hat HO HNE
        go_wp2_with fail
        go_roundw
        case rel => exact ⟨j + 1, v2, by go_num, rfl, by omega, HN⟩
        case measure => simp [intOf]; omega
      · have HN : Hid (Lst.OwnI w.heap.size wr z (natI (memR (j + 1) lab i)) ∧ Below w.heap.size w wr) := Lib.hid (by rw [HS.out, if_neg hb]; exact HO.out)
        have hne : (((lab j : Nat) : Int) == (i : Int)) = false := by rw [beq_eq_false_iff_ne]; omega
        generalize lab j = x at hc hne
        clear hb HS HO HNE
        go_wp2_with fail
        go_roundw
        case rel => exact ⟨j + 1, z, by go_num, rfl, by omega, HN⟩
        case measure => simp [intOf]; omega
    · have e : j = n := by omega
      subst e
      clear HC
      go_wp2
      go_ret
      exact ⟨z, rfl, HO.out.1, HO.out.2⟩
theorem roundR_succ (l : List Arc) (j : Nat) : natI (roundR l (j + 1)) = if (j : Int) ∈ reachR l (j : Int) then natI (roundR l j) ++ [(j : Int)] else natI (roundR l j) := by
  unfold roundR
  rw [List.range_succ, List.filter_append]
  by_cases h : (j : Int) ∈ reachR l (j : Int) <;> simp [h, natI]
set_option maxRecDepth 100000 in
set_option maxHeartbeats 4000000 in
theorem rround_any {v : Value} {l : List Arc} (n : Nat) (w : World) (h : Arcs 0 w v l) (hl : l.length ≤ 60) (hn : n ≤ 12) : Calls Tryz.prog 14 #[.int .i64 (n : Nat), v] w (NumN w (natI (roundR l n))) := by
  obtain ⟨pl, cl, rfl, _⟩ := h.open_
  have HRE : Hid (∀ W (s : Int), Below w.heap.size w W → Calls Tryz.prog 21 #[.slice pl l.length cl, .int .i64 s] W (NumN W (reachR l s))) := Lib.hid fun W s hW => reach_any s W (h.below hW) hl
  have HRL : Hid (∀ s, (reachR l s).length ≤ 5000) := Lib.hid fun s => reachR_len l s hl
  have hni : (n : Int) ≤ 12 := by omega
  generalize l.length = M at HRE ⊢
  clear h hl
  go_enter Tryz.func14, Tryz.ntmps14
  go_wp2_with fail
  go_loopw [5, 6] (fun s5 s6 wr => ∃ (j : Nat) (z : Value), s6 = .int .i64 (j : Int) ∧ z = s5 ∧ j ≤ n ∧ Hid (Lst.OwnI w.heap.size wr z (natI (roundR l j)) ∧ Below w.heap.size w wr)) (fun _ s6 _ => n - (intOf s6).toNat)
  case atStart => exact ⟨0, _, rfl, rfl, Nat.zero_le _, Lib.hid ⟨Lst.OwnI.nil _ _, Below.refl _ _⟩⟩
  case round =>
    obtain ⟨j, z, rfl, rfl, hj, HO⟩ := hrel
    by_cases hlt : j < n
    · have hji : (j : Int) < (n : Int) := by omega
      have HC := Lib.hid (HRE.out wr (j : Int) HO.out.2)
      have HS := Lib.hid (roundR_succ l j)
      have HNE : Hid ((natI (roundR l j)).length ≤ 12) := Lib.hid (by rw [natI_len]; unfold roundR; exact Nat.le_trans (List.length_filter_le _ _) (by simp; omega))
      go_wp2_with fail
      refine HC.out.mono ?_
      rintro e w1 ⟨v14, rfl, ho, hb⟩
      have HI := Lib.hid (in_any (j : Int) w1 (ho.ints (by have := HRL.out (j : Int); omega)))
      have HO1 : Hid (Lst.OwnI w.heap.size w1 z (natI (roundR l j)) ∧ Below w.heap.size w w1) := Lib.hid ⟨HO.out.1.below hb, hbt HO.out.2 hb⟩
      have hsz := HO1.out.2.size
      clear ho hb HC HO
      by_cases hm : (j : Int) ∈ reachR l (j : Int)
      · rw [decide_eq_true hm] at HI
        have HS2 : Hid (natI (roundR l (j + 1)) = natI (roundR l j) ++ [(j : Int)]) := Lib.hid (by rw [HS.out, if_pos hm])
        clear hm HS
        go_wp2_with fail
        refine HI.out.mono ?_
        rintro e w2 ⟨rfl, rfl⟩
        clear HI
        go_wp2_with (at_builtin; refine Lst.append_ints rfl (.tmp 17) (.tmp 19) rfl (B := w.heap.size) (zs := natI (roundR l j)) (ys := [(j : Int)]) (Nat.le_trans hsz (by simp)) (HO1.out.1.lay rfl _) rfl (Lst.int_lit (j : Int) _) (fun n c e => by cases e) rfl (by have := HNE.out; simp; omega) ?_; intro v2 w3 ho hg2 hat)
        have HN : Hid (Lst.OwnI w.heap.size w3 v2 (natI (roundR l (j + 1))) ∧ Below w.heap.size w w3) := Lib.hid ⟨by rw [HS2.out]; exact ho, by
          have hb : Below w1.heap.size w1 (w1.alloc (.cells #[.int .i64 (j : Int)] 3)) := (Below.refl _ _).alloc (Nat.le_refl _) _
          exact (HO1.out.2.trans (hb.mono hsz)).grown hg2 (Nat.le_trans hsz hb.size) (fun q hq => Lst.own_base HO1.out.1 q hq)⟩
        clear ho hg2 hat HO1 HNE
        go_wp2_with fail
        go_roundw
        case rel => exact ⟨j + 1, v2, by go_num, rfl, by omega, HN⟩
        case measure => simp [intOf]; omega
      · rw [decide_eq_false hm] at HI
        have HN : Hid (Lst.OwnI w.heap.size w1 z (natI (roundR l (j + 1))) ∧ Below w.heap.size w w1) := Lib.hid (by rw [HS.out, if_neg hm]; exact HO1.out)
        clear hm HS HO1 HNE
        go_wp2_with fail
        refine HI.out.mono ?_
        rintro e w2 ⟨rfl, rfl⟩
        clear HI
        go_wp2_with fail
        go_roundw
        case rel => exact ⟨j + 1, z, by go_num, rfl, by omega, HN⟩
        case measure => simp [intOf]; omega
    · have e : j = n := by omega
      subst e
      clear HRE
      go_wp2
      go_ret
      exact ⟨z, rfl, HO.out.1, HO.out.2⟩
end Go.Proofs.YtimgdkafennohaaGreatDoor.Sc
