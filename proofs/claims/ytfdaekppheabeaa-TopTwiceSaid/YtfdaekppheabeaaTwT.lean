/-
  TopTwice: the walk. Not a statement of the seat.
-/
import Derived.Test.YtfdaekppheabeaaHead17
import Derived.Test.YtfdaekppheabeaaHead20
import Derived.Test.YtfdaekppheabeaaHead4
import Derived.Test.YtfdaekppheabeaaHead23
import Derived.Test.YtfdaekppheabeaaHead16
namespace Go.Proofs.Ytfdaekppheabeaa.Dg
open Go.ChangeShapes Go.WideShapes Go.ChangeAt Go.RowKit Base F Tx Hi Off
def TrueP (w : World) (e : Ending) (w' : World) : Prop := e = .returned (.bool true) ∧ Aft w w'
theorem ne_self (a b c d : Int) (W : World) : (binOp .neq 32 (.agg #[.int .i64 a, .int .i64 b, .int .i64 c, .int .i64 d]) (.agg #[.int .i64 a, .int .i64 b, .int .i64 c, .int .i64 d])).run Try.prog W = .ok (.bool false) W := by
  have := Pk.neE (a, b, c, d) (a, b, c, d) W
  simpa using this
set_option maxRecDepth 100000 in
set_option maxHeartbeats 4000000 in
theorem begins_any (w : World) : Calls Try.prog 5 #[] w (TrueP w) := by
  have HSM := Lib.hid (small_any w)
  have HE : Hid (∀ W, Aft w W → TrueP w (.returned (.bool true)) W) := Lib.hid fun W hW => ⟨rfl, hW⟩
  generalize TrueP w = Post at HE ⊢
  go_enter Try.func5, Try.ntmps5
  go_wp2_with fail
  refine HSM.out.mono ?_
  rintro e w1 ⟨p, c, q, d, rfl, hh, ha⟩
  have HA := Lib.hid ha
  have HED := Lib.hid (edges_at hh)
  clear HSM hh ha
  go_wp2_with fail
  refine HED.out.mono ?_
  rintro e w2 ⟨v, rfl, hv, ha⟩
  obtain ⟨lp, lc, rfl, _⟩ := hv.open_
  have HF := Lib.hid (HE.out w2 (HA.out.trans ha))
  have h3 : L3.length = 3 := rfl
  rw [h3]
  clear HED HE HA hv ha h3
  go_wp2_with fail
  exact HF.out
theorem light_sm2 {h : Hist} (ht : ∀ t ∈ h.txs, Txn.ok t) (ho : ∀ o ∈ h.ords, Ordr.ok o) (hl : lightB h = true) : HistSm h ∧ HistSm (twoH h) ∧ h.ords.length ≤ 24 ∧ h.txs.length ≤ 12 ∧ ∀ t ∈ h.txs, t.ops.length ≤ 24 := by
  obtain ⟨h1, h2, h3, h4⟩ := (lightB_iff h).1 hl
  refine ⟨⟨ht, ho, by omega, fun t hm => by have := h3 t hm; omega, fun o hm => by have := h4 o hm; omega⟩, ⟨two_ok ht, ho, by show (h.txs.map twoT).length ≤ _; rw [List.length_map]; omega, fun t hm => ?_, fun o hm => by have := h4 o hm; omega⟩, h2, h1, h3⟩
  obtain ⟨x, hx, rfl⟩ := List.mem_map.1 hm
  have := h3 x hx
  have := two_len x.ops
  show (two x.ops).length ≤ _
  omega
theorem cnt_bd2 {h : Hist} (hs : HistSm h) (P : Int → Bool) (e : Edg) : cntE h P e ≤ 300000000 := by
  unfold cntE
  split
  · have h1 := ww_le (nxH P h.ords) (fun _ => false) e
    have h2 := sumT_le (nxH P h.ords) (fun q => ((laH P h.txs q.1 q.2 : Nat) : Int)) P h.txs e (fun x hx => by have := hs.ops x hx; omega)
    have := hs.num
    omega
  · omega
set_option maxRecDepth 100000 in
set_option maxHeartbeats 32000000 in
theorem twice {v u : Value} {h : Hist} (w : World) (hh : HistV w v u h) (ht : ∀ t ∈ h.txs, Txn.ok t) (ho : ∀ o ∈ h.ords, Ordr.ok o) : Calls Try.prog 3 #[.agg #[v, u]] w (TrueP w) := by
  obtain ⟨p, c, hv, _⟩ := hh.1.form
  obtain ⟨q, d, hu, _⟩ := hh.2.form
  subst hv hu
  have HSM := Lib.hid (fun e : lightB h = true => light_sm2 ht ho e)
  have HH := Lib.hid hh
  obtain ⟨n1, hn1⟩ : ∃ n, n = h.txs.length := ⟨_, rfl⟩
  obtain ⟨n2, hn2⟩ : ∃ n, n = h.ords.length := ⟨_, rfl⟩
  rw [← hn1, ← hn2] at HH
  rw [← hn1, ← hn2]
  clear hh ht ho hn1 hn2
  obtain ⟨X, hX⟩ : ∃ X, X = w.alloc (.cells #[.slice p n1 c, .slice q n2 d] 25) := ⟨_, rfl⟩
  have HA : Hid (Aft w X) := Lib.hid (by rw [hX]; exact Aft.one _)
  have HC : Hid (∀ Z, Aft X Z → (Z.cell? ⟨w.heap.size, 0, none⟩ = some (.slice p n1 c) ∧ Z.cell? ⟨w.heap.size, 1, none⟩ = some (.slice q n2 d)) ∧ w.heap.size < Z.heap.size) := Lib.hid fun Z hZ => by
    have e : X.heap[w.heap.size]? = some (.cells #[.slice p n1 c, .slice q n2 d] 25) := by rw [hX]; exact heap_alloc_at _ _ _ rfl
    have k := (hZ.block _ (heap_lt e)).trans e
    exact ⟨by simp [World.cell?, k], heap_lt k⟩
  have HC2 : Hid (∀ Z, Aft X Z → Z.cell? ⟨w.heap.size, 0, none⟩ = some (.slice p n1 c) ∧ Z.cell? ⟨w.heap.size, 1, none⟩ = some (.slice q n2 d)) := Lib.hid fun Z hZ => (HC.out Z hZ).1
  have HV : Hid (∀ W, Aft X W → HistV W (.slice p n1 c) (.slice q n2 d) h) := Lib.hid fun W hW => HH.out.below (HA.out.trans hW)
  have HL : Hid (∀ W, Aft X W → Calls Try.prog 6 #[.agg #[.slice p n1 c, .slice q n2 d]] W (BoolNew (lightB h) W)) := Lib.hid fun W hW => rlight_any W (HV.out W hW)
  have HR : Hid (lightB h = true → ∀ W, Aft X W → Calls Try.prog 7 #[.agg #[.slice p n1 c, .slice q n2 d]] W (BoolNew (rightH h) W)) := Lib.hid fun e W hW => Hi.right_any W (HV.out W hW) (sm_ok (HSM.out e).1)
  have HE : Hid (∀ W, Aft X W → TrueP w (.returned (.bool true)) W) := Lib.hid fun W hW => ⟨rfl, HA.out.trans hW⟩
  generalize TrueP w = Post at HE ⊢
  obtain ⟨lb, hlb⟩ : ∃ b, b = lightB h := ⟨_, rfl⟩
  obtain ⟨rr, hrr⟩ : ∃ b, b = rightH h := ⟨_, rfl⟩
  rw [← hlb] at HSM HL HR
  rw [← hrr] at HR
  clear hlb hrr
  go_enter Try.func3, Try.ntmps3
  go_upto_region 1 with fail
  rw [← hX]
  clear hX HH
  go_wp2_with fail
  refine (begins_any X).mono ?_
  rintro e w1 ⟨rfl, ha⟩
  have HA1 := Lib.hid ha
  obtain ⟨⟨c0, c1⟩, hbl⟩ := HC.out w1 ha
  clear ha
  cases lb with
  | false =>
    clear HSM HR
    go_wp2_with fail
    refine (HL.out w1 HA1.out).mono ?_
    rintro e w2 ⟨rfl, ha⟩
    have HF := Lib.hid (HE.out w2 (HA1.out.trans ha))
    clear ha HL HC HC2 HV HE c0 c1 hbl HA1
    go_wp2_with fail
    exact HF.out
  | true =>
    have HS := Lib.hid (HSM.out rfl)
    have HR2 := Lib.hid (HR.out rfl)
    clear HSM HR
    go_wp2_with fail
    refine (HL.out w1 HA1.out).mono ?_
    rintro e w2 ⟨rfl, ha⟩
    have HA2 := Lib.hid (HA1.out.trans ha)
    clear ha HL c0 c1 hbl HA1
    obtain ⟨⟨c0, c1⟩, hbl⟩ := HC.out w2 HA2.out
    go_wp2_with fail
    refine (HR2.out w2 HA2.out).mono ?_
    rintro e wR ⟨rfl, ha⟩
    have HAR := Lib.hid (HA2.out.trans ha)
    clear ha HR2 c0 c1 hbl HA2
    cases rr with
    | false =>
      have HF := Lib.hid (HE.out wR HAR.out)
      clear HE HC HC2 HV HAR
      go_wp2_with fail
      exact HF.out
    | true =>
      have HED : Hid (∀ W, Aft X W → Calls Try.prog 8 #[.agg #[.slice p n1 c, .slice q n2 d]] W (fun e w' => ∃ v, e = .returned v ∧ (∃ l, Lists (cntE h fun _ => true) l ∧ l.length ≤ 1000000 ∧ Hvys 0 w' v l) ∧ Aft W w')) := Lib.hid fun W hW => (edges_any W (HV.out W hW) HS.out.1 (by have := HS.out.2.2.1; omega)).mono fun e w' ⟨v, l, he, h1, h2, h3, h4⟩ => ⟨v, he, ⟨l, h1, h2, (h3.list (by omega)).mono (Nat.zero_le _)⟩, h4⟩
      have HDB : Hid (∀ W, Aft X W → Calls Try.prog 9 #[.agg #[.slice p n1 c, .slice q n2 d]] W (fun e w' => ∃ v, e = .returned (.agg #[v, .slice q n2 d]) ∧ HistV w' v (.slice q n2 d) (twoH h) ∧ Aft W w')) := Lib.hid fun W hW => doubled_any W (HV.out W hW) (by have := HS.out.2.2.2.1; omega) (fun t ht => by have := HS.out.2.2.2.2 t ht; omega)
      have HEM : Hid (∀ W v, HistV W v (.slice q n2 d) (twoH h) → Calls Try.prog 8 #[.agg #[v, .slice q n2 d]] W (fun e w' => ∃ v, e = .returned v ∧ (∃ l, Lists (cntE (twoH h) fun _ => true) l ∧ Hvys 0 w' v l) ∧ Aft W w')) := Lib.hid fun W v hW => (edges_any W hW HS.out.2.1 (by have := HS.out.2.2.1; show h.ords.length ≤ _; omega)).mono fun e w' ⟨v, l, he, h1, h2, h3, h4⟩ => ⟨v, he, ⟨l, h1, (h3.list (by omega)).mono (Nat.zero_le _)⟩, h4⟩
      obtain ⟨⟨c0, c1⟩, hbl⟩ := HC.out wR HAR.out
      clear HV
      go_upto_region 5 with fail
      obtain ⟨W0, hW0⟩ : ∃ W, W = wR.drew := ⟨_, rfl⟩
      have HA4 : Hid (Aft X W0) := Lib.hid (by rw [hW0]; exact HAR.out.drew 1)
      refine wp_region_held_drew (S := fun Z => Z.cell? ⟨w.heap.size, 0, none⟩ = some (.slice p n1 c) ∧ Z.cell? ⟨w.heap.size, 1, none⟩ = some (.slice q n2 d)) (by kernel_rfl) (hW0 ▸ HC2.out _ HA4.out) (fun hHeld0 => ?_)
      rw [← hW0] at hHeld0 ⊢
      clear hW0
      refine wpAnyH_take (i := 0) (v := ?_) rfl (by kernel_rfl) (by kernel_rfl) (by kernel_rfl) (fun _ _ _ h => h) (Or.inl ⟨by rfl, ?yrc0⟩) (by assumption) ?qrc0
      case yrc0 => (intro wz hSw; (try dsimp only at hSw); go_simp <;> with_reducible rfl)
      try simp only [Act.put, List.getElem_toArray, List.getElem_cons_zero, List.setIfInBounds_toArray, List.set_cons_zero, List.set_cons_succ]
      refine wpAnyH_take (i := 2) (v := ?_) rfl (by kernel_rfl) (by kernel_rfl) (by kernel_rfl) (fun _ _ _ h => h) (Or.inl ⟨by rfl, ?yrc2⟩) (by assumption) ?qrc2
      case yrc2 => (intro wz hSw; (try dsimp only at hSw); go_simp <;> with_reducible rfl)
      try simp only [Act.put, List.getElem_toArray, List.getElem_cons_zero, List.getElem_cons_succ, List.setIfInBounds_toArray, List.set_cons_zero, List.set_cons_succ]
      refine wpAnyH_ready (rs := [1]) (by kernel_rfl) (by simp) ?_
      refine AllReadyH.cons rfl (fun K hK => ?_) AllReadyH.nil
      go_simp
      refine (HED.out W0 HA4.out).mono ?_
      rintro e u1 ⟨v1, rfl, hx, hb⟩
      have F1 := Lib.hid hx
      have B1 : Hid (Aft W0 u1) := Lib.hid hb
      clear hb hx
      refine hK.out _ _ (HC2.out _ (HA4.out.trans B1.out)) (fun hHeldrc1 => ?_)
      clear hK K
      try simp only [Act.put, List.getElem_toArray, List.getElem_cons_zero, List.getElem_cons_succ, List.setIfInBounds_toArray, List.set_cons_zero, List.set_cons_succ]
      refine wpAnyH_ready (rs := [3]) (by kernel_rfl) (by simp) ?_
      refine AllReadyH.cons rfl (fun K hK => ?_) AllReadyH.nil
      go_simp
      refine (HDB.out u1 (HA4.out.trans B1.out)).mono ?_
      rintro e u3 ⟨v3, rfl, hx, hb⟩
      have F3 := Lib.hid hx
      have G3 : Hid (Aft u1 u3) := Lib.hid hb
      have B3 : Hid (Aft W0 u3) := Lib.hid (B1.out.trans hb)
      clear hb hx
      refine hK.out _ _ (HC2.out _ (HA4.out.trans B3.out)) (fun hHeldrc3 => ?_)
      clear hK K
      try simp only [Act.put, List.getElem_toArray, List.getElem_cons_zero, List.getElem_cons_succ, List.setIfInBounds_toArray, List.set_cons_zero, List.set_cons_succ]
      refine wpAnyH_ready (rs := [4]) (by kernel_rfl) (by simp) ?_
      refine AllReadyH.cons rfl (fun K hK => ?_) AllReadyH.nil
      go_simp
      refine (HEM.out u3 v3 F3.out).mono ?_
      rintro e u4 ⟨v4, rfl, hx, hb⟩
      have F4 := Lib.hid hx
      have B4 : Hid (Aft W0 u4) := Lib.hid (B3.out.trans hb)
      have G4 : Hid (Aft u1 u4) := Lib.hid (G3.out.trans hb)
      clear hb hx
      refine hK.out _ _ (HC2.out _ (HA4.out.trans B4.out)) (fun hHeldrc4 => ?_)
      clear hK K
      try simp only [Act.put, List.getElem_toArray, List.getElem_cons_zero, List.getElem_cons_succ, List.setIfInBounds_toArray, List.set_cons_zero, List.set_cons_succ]
      refine wpAnyH_take (i := 5) (v := ?_) rfl (by kernel_rfl) (by kernel_rfl) (by kernel_rfl) (fun _ _ _ h => h) (Or.inl ⟨by rfl, ?yrc5⟩) (by assumption) ?qrc5
      case yrc5 => (intro wz hSw; (try dsimp only at hSw); go_simp <;> with_reducible rfl)
      try simp only [Act.put, List.getElem_toArray, List.getElem_cons_zero, List.getElem_cons_succ, List.setIfInBounds_toArray, List.set_cons_zero, List.set_cons_succ]
      refine wpAnyH_take (i := 6) (v := ?_) rfl (by kernel_rfl) (by kernel_rfl) (by kernel_rfl) (fun _ _ _ h => h) (Or.inl ⟨by rfl, ?yrc6⟩) (by assumption) ?qrc6
      case yrc6 => (intro wz hSw; (try dsimp only at hSw); go_simp <;> with_reducible rfl)
      try simp only [Act.put, List.getElem_toArray, List.getElem_cons_zero, List.getElem_cons_succ, List.setIfInBounds_toArray, List.set_cons_zero, List.set_cons_succ]
      refine wpAnyH_done (by kernel_rfl) ?_ _
      obtain ⟨l, hli, hll, hlv⟩ := F1.out
      obtain ⟨m, hmi, hmv⟩ := F4.out
      have hml := two_lists (fun t ht => by have := HS.out.2.2.2.2 t ht; omega) hli hmi
      have hlv2 : Hvys 0 u4 v1 l := hlv.below G4.out
      obtain ⟨lp, lc, rfl, hl64, hlc⟩ := hlv2.open_
      obtain ⟨mp, mc, rfl, hm64, hmc⟩ := hmv.open_
      have hlen : m.length = l.length := by rw [hml, List.length_map]
      obtain ⟨w5, hw5⟩ : ∃ w5, w5 = u4 := ⟨_, rfl⟩
      rw [← hw5] at hlc hmc ⊢
      have HF0 : Hid (∀ W, Aft w5 W → Post (.returned (.bool true)) W) := Lib.hid fun W hW => HE.out W (HA4.out.trans (B4.out.trans (hw5 ▸ hW)))
      have HLC := Lib.hid hlc
      have HMC : Hid (∀ k, k < l.length → ∃ g o, mp = some ⟨g, o, none⟩ ∧ g < w5.heap.size ∧ w5.cell? ⟨g, o + k * 5, none⟩ = some (.int .i64 (timesH (l.getD k Hvy.zero)).f) ∧ w5.cell? ⟨g, o + k * 5 + 1, none⟩ = some (.int .i64 (timesH (l.getD k Hvy.zero)).t) ∧ w5.cell? ⟨g, o + k * 5 + 2, none⟩ = some (.int .i64 (timesH (l.getD k Hvy.zero)).kd) ∧ w5.cell? ⟨g, o + k * 5 + 3, none⟩ = some (.int .i64 (timesH (l.getD k Hvy.zero)).k) ∧ w5.cell? ⟨g, o + k * 5 + 4, none⟩ = some (.int .i64 (timesH (l.getD k Hvy.zero)).n)) := Lib.hid fun k hk => by
        obtain ⟨g, o, h1, _, h2, h3⟩ := hmc k (by omega)
        have e : m.getD k Hvy.zero = timesH (l.getD k Hvy.zero) := by rw [hml, List.getD_eq_getElem?_getD, List.getD_eq_getElem?_getD, List.getElem?_map, List.getElem?_eq_getElem hk]; rfl
        rw [e] at h3
        exact ⟨g, o, h1, h2, h3⟩
      have HNB : Hid (∀ k, k < l.length → 0 ≤ (l.getD k Hvy.zero).n ∧ (l.getD k Hvy.zero).n ≤ 300000000) := Lib.hid fun k hk => by
        obtain ⟨h1, h2⟩ := hli.mem (getD_mem' Hvy.zero hk)
        have := cnt_bd2 HS.out.1 (fun _ => true) (edH (l.getD k Hvy.zero))
        omega
      rw [hlen]
      obtain ⟨ln, hln⟩ : ∃ n, n = l.length := ⟨_, rfl⟩
      rw [← hln] at hll HLC HMC HNB ⊢
      have HW0 : Hid (Aft w5 w5) := Lib.hid (Aft.refl _)
      clear hHeld0 hln hlen hw5 hlc hmc hml hlv2 hmv hlv hli hmi hl64 hm64 F1 F3 F4 G3 G4 B1 B3 B4 HA4 HE HC HC2 HS HED HDB HEM HAR c0 c1 hbl
      go_wp2_with fail
      go_loopw [30] (fun s30 wr => ∃ k : Nat, s30 = .int .i64 (k : Int) ∧ k ≤ ln ∧ Hid (Aft w5 wr)) (fun s30 _ => ln - (intOf s30).toNat)
      case atStart => exact ⟨0, rfl, Nat.zero_le _, HW0⟩
      case round =>
        clear HW0
        obtain ⟨k, rfl, hk, HW⟩ := hrel
        obtain ⟨wB, hwB⟩ : ∃ wB, wB = wr := ⟨_, rfl⟩
        subst hwB
        by_cases hlt : k < ln
        · obtain ⟨g, o, e1, _, hg, c0, c1, c2, c3, c4⟩ := HLC.out k hlt
          obtain ⟨g2, o2, e2, hg2, d0, d1, d2, d3, d4⟩ := HMC.out k hlt
          subst e1 e2
          have c0 := HW.out.cell hg c0
          have c1 := HW.out.cell hg c1
          have c2 := HW.out.cell hg c2
          have c3 := HW.out.cell hg c3
          have c4 := HW.out.cell hg c4
          have hg := Nat.lt_of_lt_of_le hg HW.out.size
          have d0 := HW.out.cell hg2 d0
          have d1 := HW.out.cell hg2 d1
          have d2 := HW.out.cell hg2 d2
          have d3 := HW.out.cell hg2 d3
          have d4 := HW.out.cell hg2 d4
          have hg2 := Nat.lt_of_lt_of_le hg2 HW.out.size
          have hkI : (k : Int) < (ln : Int) := by omega
          obtain ⟨b0, b1⟩ := HNB.out k hlt
          have HKL : Hid (k < ln ∧ ln ≤ 1000000) := Lib.hid ⟨hlt, hll⟩
          generalize l.getD k Hvy.zero = x at c0 c1 c2 c3 c4 d0 d1 d2 d3 d4 b0 b1
          obtain ⟨x0, x1, x2, x3, x4⟩ := x
          unfold timesH at d0 d1 d2 d3 d4
          dsimp only at c0 c1 c2 c3 c4 d0 d1 d2 d3 d4 b0 b1
          by_cases hkd : x2 = 1
          · subst hkd
            have e4 : ((times 1 : Nat) : Int) * x4 = x4 := by unfold times; simp
            rw [e4] at d4
            clear e4
            obtain ⟨Y1, hY1⟩ : ∃ Z, Z = wB.alloc (.cells #[.int .i64 x0, .int .i64 x1, .int .i64 1, .int .i64 x3, .int .i64 x4] 34) := ⟨_, rfl⟩
            have HY1 : Hid (Aft wB Y1) := Lib.hid (by rw [hY1]; exact Aft.one _)
            obtain ⟨D, hD⟩ : ∃ D, D = Y1.drew := ⟨_, rfl⟩
            have HD0 : Hid (Aft wB D) := Lib.hid (by rw [hD]; exact HY1.out.drew 1)
            have HYE : Hid ((Y1.cell? ⟨wB.heap.size, 0, none⟩ = some (.int .i64 x0) ∧ Y1.cell? ⟨wB.heap.size, 1, none⟩ = some (.int .i64 x1) ∧ Y1.cell? ⟨wB.heap.size, 2, none⟩ = some (.int .i64 1) ∧ Y1.cell? ⟨wB.heap.size, 3, none⟩ = some (.int .i64 x3) ∧ Y1.cell? ⟨wB.heap.size, 4, none⟩ = some (.int .i64 x4)) ∧ (Y1.cell? ⟨g2, o2 + k * 5, none⟩ = some (.int .i64 x0) ∧ Y1.cell? ⟨g2, o2 + k * 5 + 1, none⟩ = some (.int .i64 x1) ∧ Y1.cell? ⟨g2, o2 + k * 5 + 2, none⟩ = some (.int .i64 1) ∧ Y1.cell? ⟨g2, o2 + k * 5 + 3, none⟩ = some (.int .i64 x3) ∧ Y1.cell? ⟨g2, o2 + k * 5 + 4, none⟩ = some (.int .i64 x4))) := Lib.hid (by
              have e : Y1.heap[wB.heap.size]? = some (.cells #[.int .i64 x0, .int .i64 x1, .int .i64 1, .int .i64 x3, .int .i64 x4] 34) := by rw [hY1]; exact heap_alloc_at _ _ _ rfl
              refine ⟨by simp [World.cell?, e], HY1.out.cell hg2 d0, HY1.out.cell hg2 d1, HY1.out.cell hg2 d2, HY1.out.cell hg2 d3, HY1.out.cell hg2 d4⟩)
            have HLT : Hid (wB.heap.size < Y1.heap.size ∧ g2 < Y1.heap.size) := Lib.hid ⟨by rw [hY1]; simp, Nat.lt_of_lt_of_le hg2 HY1.out.size⟩
            have HFIN : Hid (Aft w5 D) := Lib.hid (HW.out.trans HD0.out)
            have heq := fun W => ne_self x0 x1 1 x3 W
            have hmul : IntKind.i64.wrap x4 = x4 := by rw [IntKind.wrap_i64]; omega
            go_upto_region 14 with fail
            rw [← hY1]
            clear hY1 c0 c1 c2 c3 c4 d0 d1 d2 d3 d4 hg hg2
            obtain ⟨⟨c0, c1, c2, c3, c4⟩, d0, d1, d2, d3, d4⟩ := HYE.out
            obtain ⟨l1, l2⟩ := HLT.out
            have HYD : Hid ((D.cell? ⟨wB.heap.size, 0, none⟩ = some (.int .i64 x0) ∧ D.cell? ⟨wB.heap.size, 1, none⟩ = some (.int .i64 x1) ∧ D.cell? ⟨wB.heap.size, 2, none⟩ = some (.int .i64 1) ∧ D.cell? ⟨wB.heap.size, 3, none⟩ = some (.int .i64 x3) ∧ D.cell? ⟨wB.heap.size, 4, none⟩ = some (.int .i64 x4)) ∧ (D.cell? ⟨g2, o2 + k * 5, none⟩ = some (.int .i64 x0) ∧ D.cell? ⟨g2, o2 + k * 5 + 1, none⟩ = some (.int .i64 x1) ∧ D.cell? ⟨g2, o2 + k * 5 + 2, none⟩ = some (.int .i64 1) ∧ D.cell? ⟨g2, o2 + k * 5 + 3, none⟩ = some (.int .i64 x3) ∧ D.cell? ⟨g2, o2 + k * 5 + 4, none⟩ = some (.int .i64 x4))) := Lib.hid (by rw [hD]; exact HYE.out)
            refine wp_region_held_drew (S := fun Z => (Z.cell? ⟨wB.heap.size, 0, none⟩ = some (.int .i64 x0) ∧ Z.cell? ⟨wB.heap.size, 1, none⟩ = some (.int .i64 x1) ∧ Z.cell? ⟨wB.heap.size, 2, none⟩ = some (.int .i64 1) ∧ Z.cell? ⟨wB.heap.size, 3, none⟩ = some (.int .i64 x3) ∧ Z.cell? ⟨wB.heap.size, 4, none⟩ = some (.int .i64 x4)) ∧ (Z.cell? ⟨g2, o2 + k * 5, none⟩ = some (.int .i64 x0) ∧ Z.cell? ⟨g2, o2 + k * 5 + 1, none⟩ = some (.int .i64 x1) ∧ Z.cell? ⟨g2, o2 + k * 5 + 2, none⟩ = some (.int .i64 1) ∧ Z.cell? ⟨g2, o2 + k * 5 + 3, none⟩ = some (.int .i64 x3) ∧ Z.cell? ⟨g2, o2 + k * 5 + 4, none⟩ = some (.int .i64 x4))) (by kernel_rfl) (by rw [← hD]; exact HYD.out) (fun hHeld0 => ?_)
            rw [← hD] at hHeld0 ⊢
            clear hD
            refine wpAnyH_take (i := 0) (v := ?_) rfl (by kernel_rfl) (by kernel_rfl) (by kernel_rfl) (fun _ _ _ h => h) (Or.inl ⟨by rfl, ?yra0⟩) (by assumption) ?qra0
            case yra0 => (intro wz hSw; (try dsimp only at hSw); go_simp <;> with_reducible rfl)
            try simp only [Act.put, List.getElem_toArray, List.getElem_cons_zero, List.setIfInBounds_toArray, List.set_cons_zero, List.set_cons_succ]
            refine wpAnyH_take (i := 1) (v := ?_) rfl (by kernel_rfl) (by kernel_rfl) (by kernel_rfl) (fun _ _ _ h => h) (Or.inl ⟨by rfl, ?yra1⟩) (by assumption) ?qra1
            case yra1 => (intro wz hSw; (try dsimp only at hSw); go_simp <;> with_reducible rfl)
            try simp only [Act.put, List.getElem_toArray, List.getElem_cons_zero, List.getElem_cons_succ, List.setIfInBounds_toArray, List.set_cons_zero, List.set_cons_succ]
            refine wpAnyH_take (i := 2) (v := ?_) rfl (by kernel_rfl) (by kernel_rfl) (by kernel_rfl) (fun _ _ _ h => h) (Or.inl ⟨by rfl, ?yra2⟩) (by assumption) ?qra2
            case yra2 => (intro wz hSw; (try dsimp only at hSw); go_simp <;> with_reducible rfl)
            try simp only [Act.put, List.getElem_toArray, List.getElem_cons_zero, List.getElem_cons_succ, List.setIfInBounds_toArray, List.set_cons_zero, List.set_cons_succ]
            refine wpAnyH_take (i := 3) (v := ?_) rfl (by kernel_rfl) (by kernel_rfl) (by kernel_rfl) (fun _ _ _ h => h) (Or.inl ⟨by rfl, ?yra3⟩) (by assumption) ?qra3
            case yra3 => (intro wz hSw; (try dsimp only at hSw); go_simp <;> with_reducible rfl)
            try simp only [Act.put, List.getElem_toArray, List.getElem_cons_zero, List.getElem_cons_succ, List.setIfInBounds_toArray, List.set_cons_zero, List.set_cons_succ]
            refine wpAnyH_take (i := 4) (v := ?_) rfl (by kernel_rfl) (by kernel_rfl) (by kernel_rfl) (fun _ _ _ h => h) (Or.inl ⟨by rfl, ?yra4⟩) (by assumption) ?qra4
            case yra4 => (intro wz hSw; (try dsimp only at hSw); go_simp <;> with_reducible rfl)
            try simp only [Act.put, List.getElem_toArray, List.getElem_cons_zero, List.getElem_cons_succ, List.setIfInBounds_toArray, List.set_cons_zero, List.set_cons_succ]
            refine wpAnyH_take (i := 5) (v := ?_) rfl (by kernel_rfl) (by kernel_rfl) (by kernel_rfl) (fun _ _ _ h => h) (Or.inl ⟨by rfl, ?yra5⟩) (by assumption) ?qra5
            case yra5 => (intro wz hSw; (try dsimp only at hSw); go_simp <;> with_reducible rfl)
            try simp only [Act.put, List.getElem_toArray, List.getElem_cons_zero, List.getElem_cons_succ, List.setIfInBounds_toArray, List.set_cons_zero, List.set_cons_succ]
            refine wpAnyH_take (i := 6) (v := ?_) rfl (by kernel_rfl) (by kernel_rfl) (by kernel_rfl) (fun _ _ _ h => h) (Or.inl ⟨by rfl, ?yra6⟩) (by assumption) ?qra6
            case yra6 => (intro wz hSw; (try dsimp only at hSw); go_simp <;> with_reducible rfl)
            try simp only [Act.put, List.getElem_toArray, List.getElem_cons_zero, List.getElem_cons_succ, List.setIfInBounds_toArray, List.set_cons_zero, List.set_cons_succ]
            refine wpAnyH_take (i := 7) (v := ?_) rfl (by kernel_rfl) (by kernel_rfl) (by kernel_rfl) (fun _ _ _ h => h) (Or.inl ⟨by rfl, ?yra7⟩) (by assumption) ?qra7
            case yra7 => (intro wz hSw; (try dsimp only at hSw); go_simp <;> with_reducible rfl)
            try simp only [Act.put, List.getElem_toArray, List.getElem_cons_zero, List.getElem_cons_succ, List.setIfInBounds_toArray, List.set_cons_zero, List.set_cons_succ]
            refine wpAnyH_take (i := 8) (v := ?_) rfl (by kernel_rfl) (by kernel_rfl) (by kernel_rfl) (fun _ _ _ h => h) (Or.inl ⟨by rfl, ?yra8⟩) (by assumption) ?qra8
            case yra8 => (intro wz hSw; (try dsimp only at hSw); go_simp <;> with_reducible rfl)
            try simp only [Act.put, List.getElem_toArray, List.getElem_cons_zero, List.getElem_cons_succ, List.setIfInBounds_toArray, List.set_cons_zero, List.set_cons_succ]
            refine wpAnyH_take (i := 9) (v := ?_) rfl (by kernel_rfl) (by kernel_rfl) (by kernel_rfl) (fun _ _ _ h => h) (Or.inl ⟨by rfl, ?yra9⟩) (by assumption) ?qra9
            case yra9 => (intro wz hSw; (try dsimp only at hSw); go_simp <;> with_reducible rfl)
            try simp only [Act.put, List.getElem_toArray, List.getElem_cons_zero, List.getElem_cons_succ, List.setIfInBounds_toArray, List.set_cons_zero, List.set_cons_succ]
            refine wpAnyH_take (i := 10) (v := ?_) rfl (by kernel_rfl) (by kernel_rfl) (by kernel_rfl) (fun _ _ _ h => h) (Or.inl ⟨by rfl, ?yra10⟩) (by assumption) ?qra10
            case yra10 => (intro wz hSw; (try dsimp only at hSw); go_simp <;> with_reducible rfl)
            try simp only [Act.put, List.getElem_toArray, List.getElem_cons_zero, List.getElem_cons_succ, List.setIfInBounds_toArray, List.set_cons_zero, List.set_cons_succ]
            refine wpAnyH_take (i := 11) (v := ?_) rfl (by kernel_rfl) (by kernel_rfl) (by kernel_rfl) (fun _ _ _ h => h) (Or.inl ⟨by rfl, ?yra11⟩) (by assumption) ?qra11
            case yra11 => (intro wz hSw; (try dsimp only at hSw); go_simp <;> with_reducible rfl)
            try simp only [Act.put, List.getElem_toArray, List.getElem_cons_zero, List.getElem_cons_succ, List.setIfInBounds_toArray, List.set_cons_zero, List.set_cons_succ]
            refine wpAnyH_take (i := 12) (v := ?_) rfl (by kernel_rfl) (by kernel_rfl) (by kernel_rfl) (fun _ _ _ h => h) (Or.inl ⟨by rfl, ?yra12⟩) (by assumption) ?qra12
            case yra12 => (intro wz hSw; (try dsimp only at hSw); go_simp <;> with_reducible rfl)
            try simp only [Act.put, List.getElem_toArray, List.getElem_cons_zero, List.getElem_cons_succ, List.setIfInBounds_toArray, List.set_cons_zero, List.set_cons_succ]
            refine wpAnyH_take (i := 13) (v := ?_) rfl (by kernel_rfl) (by kernel_rfl) (by kernel_rfl) (fun _ _ _ h => h) (Or.inl ⟨by rfl, ?yra13⟩) (by assumption) ?qra13
            case yra13 => (intro wz hSw; (try dsimp only at hSw); go_simp <;> with_reducible rfl)
            try simp only [Act.put, List.getElem_toArray, List.getElem_cons_zero, List.getElem_cons_succ, List.setIfInBounds_toArray, List.set_cons_zero, List.set_cons_succ]
            refine wpAnyH_take (i := 14) (v := ?_) rfl (by kernel_rfl) (by kernel_rfl) (by kernel_rfl) (fun _ _ _ h => h) (Or.inl ⟨by rfl, ?yra14⟩) (by assumption) ?qra14
            case yra14 => (intro wz hSw; (try dsimp only at hSw); go_simp <;> with_reducible rfl)
            try simp only [Act.put, List.getElem_toArray, List.getElem_cons_zero, List.getElem_cons_succ, List.setIfInBounds_toArray, List.set_cons_zero, List.set_cons_succ]
            refine wpAnyH_take (i := 15) (v := ?_) rfl (by kernel_rfl) (by kernel_rfl) (by kernel_rfl) (fun _ _ _ h => h) (Or.inl ⟨by rfl, ?yra15⟩) (by assumption) ?qra15
            case yra15 => (intro wz hSw; (try dsimp only at hSw); go_simp <;> with_reducible rfl)
            try simp only [Act.put, List.getElem_toArray, List.getElem_cons_zero, List.getElem_cons_succ, List.setIfInBounds_toArray, List.set_cons_zero, List.set_cons_succ]
            refine wpAnyH_take (i := 16) (v := ?_) rfl (by kernel_rfl) (by kernel_rfl) (by kernel_rfl) (fun _ _ _ h => h) (Or.inl ⟨by rfl, ?yra16⟩) (by assumption) ?qra16
            case yra16 => (intro wz hSw; (try dsimp only at hSw); go_simp <;> with_reducible rfl)
            try simp only [Act.put, List.getElem_toArray, List.getElem_cons_zero, List.getElem_cons_succ, List.setIfInBounds_toArray, List.set_cons_zero, List.set_cons_succ]
            refine wpAnyH_take (i := 17) (v := ?_) rfl (by kernel_rfl) (by kernel_rfl) (by kernel_rfl) (fun _ _ _ h => h) (Or.inl ⟨by rfl, ?yra17⟩) (by assumption) ?qra17
            case yra17 => (intro wz hSw; (try dsimp only at hSw); go_simp <;> with_reducible rfl)
            try simp only [Act.put, List.getElem_toArray, List.getElem_cons_zero, List.getElem_cons_succ, List.setIfInBounds_toArray, List.set_cons_zero, List.set_cons_succ]
            refine wpAnyH_take (i := 18) (v := ?_) rfl (by kernel_rfl) (by kernel_rfl) (by kernel_rfl) (fun _ _ _ h => h) (Or.inl ⟨by rfl, ?yra18⟩) (by assumption) ?qra18
            case yra18 => (intro wz hSw; (try dsimp only at hSw); go_simp <;> with_reducible rfl)
            try simp only [Act.put, List.getElem_toArray, List.getElem_cons_zero, List.getElem_cons_succ, List.setIfInBounds_toArray, List.set_cons_zero, List.set_cons_succ]
            refine wpAnyH_take (i := 19) (v := ?_) rfl (by kernel_rfl) (by kernel_rfl) (by kernel_rfl) (fun _ _ _ h => h) (Or.inl ⟨by rfl, ?yra19⟩) (by assumption) ?qra19
            case yra19 => (intro wz hSw; (try dsimp only at hSw); go_simp <;> with_reducible rfl)
            try simp only [Act.put, List.getElem_toArray, List.getElem_cons_zero, List.getElem_cons_succ, List.setIfInBounds_toArray, List.set_cons_zero, List.set_cons_succ]
            refine wpAnyH_done (by kernel_rfl) ?_ _
            clear hHeld0 heq
            go_wp2_with fail
            obtain ⟨kl, kz⟩ := HKL.out
            go_roundw
            case rel => exact ⟨k + 1, by go_num, by omega, HFIN⟩
            case measure => simp [intOf]; omega
          · have e4 : ((times x2 : Nat) : Int) * x4 = 2 * x4 := by unfold times; rw [if_neg hkd]; rfl
            rw [e4] at d4
            clear e4
            have hkb : (x2 == 1) = false := by simpa using hkd
            obtain ⟨Y1, hY1⟩ : ∃ Z, Z = wB.alloc (.cells #[.int .i64 x0, .int .i64 x1, .int .i64 x2, .int .i64 x3, .int .i64 x4] 34) := ⟨_, rfl⟩
            have HY1 : Hid (Aft wB Y1) := Lib.hid (by rw [hY1]; exact Aft.one _)
            obtain ⟨D, hD⟩ : ∃ D, D = Y1.drew := ⟨_, rfl⟩
            have HD0 : Hid (Aft wB D) := Lib.hid (by rw [hD]; exact HY1.out.drew 1)
            have HYE : Hid ((Y1.cell? ⟨wB.heap.size, 0, none⟩ = some (.int .i64 x0) ∧ Y1.cell? ⟨wB.heap.size, 1, none⟩ = some (.int .i64 x1) ∧ Y1.cell? ⟨wB.heap.size, 2, none⟩ = some (.int .i64 x2) ∧ Y1.cell? ⟨wB.heap.size, 3, none⟩ = some (.int .i64 x3) ∧ Y1.cell? ⟨wB.heap.size, 4, none⟩ = some (.int .i64 x4)) ∧ (Y1.cell? ⟨g2, o2 + k * 5, none⟩ = some (.int .i64 x0) ∧ Y1.cell? ⟨g2, o2 + k * 5 + 1, none⟩ = some (.int .i64 x1) ∧ Y1.cell? ⟨g2, o2 + k * 5 + 2, none⟩ = some (.int .i64 x2) ∧ Y1.cell? ⟨g2, o2 + k * 5 + 3, none⟩ = some (.int .i64 x3) ∧ Y1.cell? ⟨g2, o2 + k * 5 + 4, none⟩ = some (.int .i64 (2 * x4)))) := Lib.hid (by
              have e : Y1.heap[wB.heap.size]? = some (.cells #[.int .i64 x0, .int .i64 x1, .int .i64 x2, .int .i64 x3, .int .i64 x4] 34) := by rw [hY1]; exact heap_alloc_at _ _ _ rfl
              refine ⟨by simp [World.cell?, e], HY1.out.cell hg2 d0, HY1.out.cell hg2 d1, HY1.out.cell hg2 d2, HY1.out.cell hg2 d3, HY1.out.cell hg2 d4⟩)
            have HLT : Hid (wB.heap.size < Y1.heap.size ∧ g2 < Y1.heap.size) := Lib.hid ⟨by rw [hY1]; simp, Nat.lt_of_lt_of_le hg2 HY1.out.size⟩
            have HFIN : Hid (Aft w5 D) := Lib.hid (HW.out.trans HD0.out)
            have heq := fun W => ne_self x0 x1 x2 x3 W
            have hmul : IntKind.i64.wrap (2 * x4) = 2 * x4 := by rw [IntKind.wrap_i64]; omega
            go_upto_region 14 with fail
            rw [← hY1]
            clear hY1 c0 c1 c2 c3 c4 d0 d1 d2 d3 d4 hg hg2
            obtain ⟨⟨c0, c1, c2, c3, c4⟩, d0, d1, d2, d3, d4⟩ := HYE.out
            obtain ⟨l1, l2⟩ := HLT.out
            have HYD : Hid ((D.cell? ⟨wB.heap.size, 0, none⟩ = some (.int .i64 x0) ∧ D.cell? ⟨wB.heap.size, 1, none⟩ = some (.int .i64 x1) ∧ D.cell? ⟨wB.heap.size, 2, none⟩ = some (.int .i64 x2) ∧ D.cell? ⟨wB.heap.size, 3, none⟩ = some (.int .i64 x3) ∧ D.cell? ⟨wB.heap.size, 4, none⟩ = some (.int .i64 x4)) ∧ (D.cell? ⟨g2, o2 + k * 5, none⟩ = some (.int .i64 x0) ∧ D.cell? ⟨g2, o2 + k * 5 + 1, none⟩ = some (.int .i64 x1) ∧ D.cell? ⟨g2, o2 + k * 5 + 2, none⟩ = some (.int .i64 x2) ∧ D.cell? ⟨g2, o2 + k * 5 + 3, none⟩ = some (.int .i64 x3) ∧ D.cell? ⟨g2, o2 + k * 5 + 4, none⟩ = some (.int .i64 (2 * x4)))) := Lib.hid (by rw [hD]; exact HYE.out)
            refine wp_region_held_drew (S := fun Z => (Z.cell? ⟨wB.heap.size, 0, none⟩ = some (.int .i64 x0) ∧ Z.cell? ⟨wB.heap.size, 1, none⟩ = some (.int .i64 x1) ∧ Z.cell? ⟨wB.heap.size, 2, none⟩ = some (.int .i64 x2) ∧ Z.cell? ⟨wB.heap.size, 3, none⟩ = some (.int .i64 x3) ∧ Z.cell? ⟨wB.heap.size, 4, none⟩ = some (.int .i64 x4)) ∧ (Z.cell? ⟨g2, o2 + k * 5, none⟩ = some (.int .i64 x0) ∧ Z.cell? ⟨g2, o2 + k * 5 + 1, none⟩ = some (.int .i64 x1) ∧ Z.cell? ⟨g2, o2 + k * 5 + 2, none⟩ = some (.int .i64 x2) ∧ Z.cell? ⟨g2, o2 + k * 5 + 3, none⟩ = some (.int .i64 x3) ∧ Z.cell? ⟨g2, o2 + k * 5 + 4, none⟩ = some (.int .i64 (2 * x4)))) (by kernel_rfl) (by rw [← hD]; exact HYD.out) (fun hHeld0 => ?_)
            rw [← hD] at hHeld0 ⊢
            clear hD
            refine wpAnyH_take (i := 0) (v := ?_) rfl (by kernel_rfl) (by kernel_rfl) (by kernel_rfl) (fun _ _ _ h => h) (Or.inl ⟨by rfl, ?yrb0⟩) (by assumption) ?qrb0
            case yrb0 => (intro wz hSw; (try dsimp only at hSw); go_simp <;> with_reducible rfl)
            try simp only [Act.put, List.getElem_toArray, List.getElem_cons_zero, List.setIfInBounds_toArray, List.set_cons_zero, List.set_cons_succ]
            refine wpAnyH_take (i := 1) (v := ?_) rfl (by kernel_rfl) (by kernel_rfl) (by kernel_rfl) (fun _ _ _ h => h) (Or.inl ⟨by rfl, ?yrb1⟩) (by assumption) ?qrb1
            case yrb1 => (intro wz hSw; (try dsimp only at hSw); go_simp <;> with_reducible rfl)
            try simp only [Act.put, List.getElem_toArray, List.getElem_cons_zero, List.getElem_cons_succ, List.setIfInBounds_toArray, List.set_cons_zero, List.set_cons_succ]
            refine wpAnyH_take (i := 2) (v := ?_) rfl (by kernel_rfl) (by kernel_rfl) (by kernel_rfl) (fun _ _ _ h => h) (Or.inl ⟨by rfl, ?yrb2⟩) (by assumption) ?qrb2
            case yrb2 => (intro wz hSw; (try dsimp only at hSw); go_simp <;> with_reducible rfl)
            try simp only [Act.put, List.getElem_toArray, List.getElem_cons_zero, List.getElem_cons_succ, List.setIfInBounds_toArray, List.set_cons_zero, List.set_cons_succ]
            refine wpAnyH_take (i := 3) (v := ?_) rfl (by kernel_rfl) (by kernel_rfl) (by kernel_rfl) (fun _ _ _ h => h) (Or.inl ⟨by rfl, ?yrb3⟩) (by assumption) ?qrb3
            case yrb3 => (intro wz hSw; (try dsimp only at hSw); go_simp <;> with_reducible rfl)
            try simp only [Act.put, List.getElem_toArray, List.getElem_cons_zero, List.getElem_cons_succ, List.setIfInBounds_toArray, List.set_cons_zero, List.set_cons_succ]
            refine wpAnyH_take (i := 4) (v := ?_) rfl (by kernel_rfl) (by kernel_rfl) (by kernel_rfl) (fun _ _ _ h => h) (Or.inl ⟨by rfl, ?yrb4⟩) (by assumption) ?qrb4
            case yrb4 => (intro wz hSw; (try dsimp only at hSw); go_simp <;> with_reducible rfl)
            try simp only [Act.put, List.getElem_toArray, List.getElem_cons_zero, List.getElem_cons_succ, List.setIfInBounds_toArray, List.set_cons_zero, List.set_cons_succ]
            refine wpAnyH_take (i := 5) (v := ?_) rfl (by kernel_rfl) (by kernel_rfl) (by kernel_rfl) (fun _ _ _ h => h) (Or.inl ⟨by rfl, ?yrb5⟩) (by assumption) ?qrb5
            case yrb5 => (intro wz hSw; (try dsimp only at hSw); go_simp <;> with_reducible rfl)
            try simp only [Act.put, List.getElem_toArray, List.getElem_cons_zero, List.getElem_cons_succ, List.setIfInBounds_toArray, List.set_cons_zero, List.set_cons_succ]
            refine wpAnyH_take (i := 6) (v := ?_) rfl (by kernel_rfl) (by kernel_rfl) (by kernel_rfl) (fun _ _ _ h => h) (Or.inl ⟨by rfl, ?yrb6⟩) (by assumption) ?qrb6
            case yrb6 => (intro wz hSw; (try dsimp only at hSw); go_simp <;> with_reducible rfl)
            try simp only [Act.put, List.getElem_toArray, List.getElem_cons_zero, List.getElem_cons_succ, List.setIfInBounds_toArray, List.set_cons_zero, List.set_cons_succ]
            refine wpAnyH_take (i := 7) (v := ?_) rfl (by kernel_rfl) (by kernel_rfl) (by kernel_rfl) (fun _ _ _ h => h) (Or.inl ⟨by rfl, ?yrb7⟩) (by assumption) ?qrb7
            case yrb7 => (intro wz hSw; (try dsimp only at hSw); go_simp <;> with_reducible rfl)
            try simp only [Act.put, List.getElem_toArray, List.getElem_cons_zero, List.getElem_cons_succ, List.setIfInBounds_toArray, List.set_cons_zero, List.set_cons_succ]
            refine wpAnyH_take (i := 8) (v := ?_) rfl (by kernel_rfl) (by kernel_rfl) (by kernel_rfl) (fun _ _ _ h => h) (Or.inl ⟨by rfl, ?yrb8⟩) (by assumption) ?qrb8
            case yrb8 => (intro wz hSw; (try dsimp only at hSw); go_simp <;> with_reducible rfl)
            try simp only [Act.put, List.getElem_toArray, List.getElem_cons_zero, List.getElem_cons_succ, List.setIfInBounds_toArray, List.set_cons_zero, List.set_cons_succ]
            refine wpAnyH_take (i := 9) (v := ?_) rfl (by kernel_rfl) (by kernel_rfl) (by kernel_rfl) (fun _ _ _ h => h) (Or.inl ⟨by rfl, ?yrb9⟩) (by assumption) ?qrb9
            case yrb9 => (intro wz hSw; (try dsimp only at hSw); go_simp <;> with_reducible rfl)
            try simp only [Act.put, List.getElem_toArray, List.getElem_cons_zero, List.getElem_cons_succ, List.setIfInBounds_toArray, List.set_cons_zero, List.set_cons_succ]
            refine wpAnyH_take (i := 10) (v := ?_) rfl (by kernel_rfl) (by kernel_rfl) (by kernel_rfl) (fun _ _ _ h => h) (Or.inl ⟨by rfl, ?yrb10⟩) (by assumption) ?qrb10
            case yrb10 => (intro wz hSw; (try dsimp only at hSw); go_simp <;> with_reducible rfl)
            try simp only [Act.put, List.getElem_toArray, List.getElem_cons_zero, List.getElem_cons_succ, List.setIfInBounds_toArray, List.set_cons_zero, List.set_cons_succ]
            refine wpAnyH_take (i := 11) (v := ?_) rfl (by kernel_rfl) (by kernel_rfl) (by kernel_rfl) (fun _ _ _ h => h) (Or.inl ⟨by rfl, ?yrb11⟩) (by assumption) ?qrb11
            case yrb11 => (intro wz hSw; (try dsimp only at hSw); go_simp <;> with_reducible rfl)
            try simp only [Act.put, List.getElem_toArray, List.getElem_cons_zero, List.getElem_cons_succ, List.setIfInBounds_toArray, List.set_cons_zero, List.set_cons_succ]
            refine wpAnyH_take (i := 12) (v := ?_) rfl (by kernel_rfl) (by kernel_rfl) (by kernel_rfl) (fun _ _ _ h => h) (Or.inl ⟨by rfl, ?yrb12⟩) (by assumption) ?qrb12
            case yrb12 => (intro wz hSw; (try dsimp only at hSw); go_simp <;> with_reducible rfl)
            try simp only [Act.put, List.getElem_toArray, List.getElem_cons_zero, List.getElem_cons_succ, List.setIfInBounds_toArray, List.set_cons_zero, List.set_cons_succ]
            refine wpAnyH_take (i := 13) (v := ?_) rfl (by kernel_rfl) (by kernel_rfl) (by kernel_rfl) (fun _ _ _ h => h) (Or.inl ⟨by rfl, ?yrb13⟩) (by assumption) ?qrb13
            case yrb13 => (intro wz hSw; (try dsimp only at hSw); go_simp <;> with_reducible rfl)
            try simp only [Act.put, List.getElem_toArray, List.getElem_cons_zero, List.getElem_cons_succ, List.setIfInBounds_toArray, List.set_cons_zero, List.set_cons_succ]
            refine wpAnyH_take (i := 14) (v := ?_) rfl (by kernel_rfl) (by kernel_rfl) (by kernel_rfl) (fun _ _ _ h => h) (Or.inl ⟨by rfl, ?yrb14⟩) (by assumption) ?qrb14
            case yrb14 => (intro wz hSw; (try dsimp only at hSw); go_simp <;> with_reducible rfl)
            try simp only [Act.put, List.getElem_toArray, List.getElem_cons_zero, List.getElem_cons_succ, List.setIfInBounds_toArray, List.set_cons_zero, List.set_cons_succ]
            refine wpAnyH_take (i := 15) (v := ?_) rfl (by kernel_rfl) (by kernel_rfl) (by kernel_rfl) (fun _ _ _ h => h) (Or.inl ⟨by rfl, ?yrb15⟩) (by assumption) ?qrb15
            case yrb15 => (intro wz hSw; (try dsimp only at hSw); go_simp <;> with_reducible rfl)
            try simp only [Act.put, List.getElem_toArray, List.getElem_cons_zero, List.getElem_cons_succ, List.setIfInBounds_toArray, List.set_cons_zero, List.set_cons_succ]
            refine wpAnyH_take (i := 16) (v := ?_) rfl (by kernel_rfl) (by kernel_rfl) (by kernel_rfl) (fun _ _ _ h => h) (Or.inl ⟨by rfl, ?yrb16⟩) (by assumption) ?qrb16
            case yrb16 => (intro wz hSw; (try dsimp only at hSw); go_simp <;> with_reducible rfl)
            try simp only [Act.put, List.getElem_toArray, List.getElem_cons_zero, List.getElem_cons_succ, List.setIfInBounds_toArray, List.set_cons_zero, List.set_cons_succ]
            refine wpAnyH_take (i := 17) (v := ?_) rfl (by kernel_rfl) (by kernel_rfl) (by kernel_rfl) (fun _ _ _ h => h) (Or.inl ⟨by rfl, ?yrb17⟩) (by assumption) ?qrb17
            case yrb17 => (intro wz hSw; (try dsimp only at hSw); go_simp <;> with_reducible rfl)
            try simp only [Act.put, List.getElem_toArray, List.getElem_cons_zero, List.getElem_cons_succ, List.setIfInBounds_toArray, List.set_cons_zero, List.set_cons_succ]
            refine wpAnyH_take (i := 18) (v := ?_) rfl (by kernel_rfl) (by kernel_rfl) (by kernel_rfl) (fun _ _ _ h => h) (Or.inl ⟨by rfl, ?yrb18⟩) (by assumption) ?qrb18
            case yrb18 => (intro wz hSw; (try dsimp only at hSw); go_simp <;> with_reducible rfl)
            try simp only [Act.put, List.getElem_toArray, List.getElem_cons_zero, List.getElem_cons_succ, List.setIfInBounds_toArray, List.set_cons_zero, List.set_cons_succ]
            refine wpAnyH_take (i := 19) (v := ?_) rfl (by kernel_rfl) (by kernel_rfl) (by kernel_rfl) (fun _ _ _ h => h) (Or.inl ⟨by rfl, ?yrb19⟩) (by assumption) ?qrb19
            case yrb19 => (intro wz hSw; (try dsimp only at hSw); go_simp <;> with_reducible rfl)
            try simp only [Act.put, List.getElem_toArray, List.getElem_cons_zero, List.getElem_cons_succ, List.setIfInBounds_toArray, List.set_cons_zero, List.set_cons_succ]
            refine wpAnyH_done (by kernel_rfl) ?_ _
            clear hHeld0 heq
            go_wp2_with fail
            obtain ⟨kl, kz⟩ := HKL.out
            go_roundw
            case rel => exact ⟨k + 1, by go_num, by omega, HFIN⟩
            case measure => simp [intOf]; omega
        · have HF := Lib.hid (HF0.out wB HW.out)
          have hke : k = ln := by omega
          subst hke
          clear HF0 HW HLC HMC HNB hlt hk
          go_wp2_with fail
          exact HF.out
end Go.Proofs.Ytfdaekppheabeaa.Dg
