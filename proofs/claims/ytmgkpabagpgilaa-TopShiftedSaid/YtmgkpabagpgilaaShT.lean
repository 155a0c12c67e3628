/-
  TopShifted: the walk. Not a statement of the seat.
-/
import Derived.Test.YtmgkpabagpgilaaShW
import Derived.Test.YtmgkpabagpgilaaHead18
import Derived.Test.YtmgkpabagpgilaaHead21
namespace Go.Proofs.Ytmgkpabagpgilaa.Dg
open Go.ChangeShapes Go.WideShapes Go.ChangeAt Go.RowKit Base F Tx Hi Off
theorem light_smS {h : Hist} (ht : ∀ t ∈ h.txs, Txn.ok t) (ho : ∀ o ∈ h.ords, Ordr.ok o) (hl : lightB h = true) : HistSm h ∧ h.ords.length ≤ 24 ∧ h.txs.length ≤ 12 ∧ (∀ t ∈ h.txs, t.ops.length ≤ 24) ∧ ∀ o ∈ h.ords, o.txs.length ≤ 24 := by
  obtain ⟨h1, h2, h3, h4⟩ := (lightB_iff h).1 hl
  exact ⟨⟨ht, ho, by omega, fun t hm => by have := h3 t hm; omega, fun o hm => by have := h4 o hm; omega⟩, h2, h1, h3, h4⟩
theorem sh_ok {h : Hist} {a b : Int} (ha : 0 ≤ a ∧ a ≤ 40000) (hb : 0 ≤ b ∧ b ≤ 40000) (hr : rightH h = true) (hl : lowH 1000000 h) (h1 : h.ords.length ≤ 24) (h2 : h.txs.length ≤ 12) (h3 : ∀ t ∈ h.txs, t.ops.length ≤ 24) (h4 : ∀ o ∈ h.ords, o.txs.length ≤ 24) : ShOk a b h := by
  refine ⟨ha, hb, hl, fun t ht => ⟨by have := h3 t ht; omega, low_ok hr hl ht⟩, fun o ho => ⟨?_, by have := h4 o ho; omega, fun y hy => ?_⟩, by omega, by omega⟩
  · obtain ⟨_, _, _, _, h5, _⟩ := right_iff.1 hr
    have hk : o.key ∈ KW h.txs := by rw [← h5]; exact List.mem_map.2 ⟨o, ho, rfl⟩
    obtain ⟨t, ht, _, hw⟩ := mem_allK.1 (mem_keysL.1 hk)
    obtain ⟨x, hx, hxk⟩ := List.mem_map.1 (wrN_pos.1 hw)
    have := (hl t ht).2 x (List.mem_filter.1 hx).1
    omega
  · obtain ⟨_, h6⟩ := right_order hr ho
    obtain ⟨t, ht, _, _⟩ := h6 y hy
    have := (hl t (Hi.findT_mem ht)).1
    have := findT_id0 ht
    omega
theorem sh_bd {h : Hist} {a b : Int} (hs : ShOk a b h) (hr : rightH h = true) {e : Edg} (hc : cntE h (fun _ => true) e ≠ 0) : (1 ≤ e.f ∧ e.f ≤ 1000000) ∧ (1 ≤ e.t ∧ e.t ≤ 1000000) ∧ (0 ≤ e.k ∧ e.k ≤ 2000000) := by
  obtain ⟨u, v, hu, hv, _⟩ := cnt_ends hc
  have h1 := (hs.low u (Hi.findT_mem hu)).1
  have h2 := findT_id0 hu
  have h3 := (hs.low v (Hi.findT_mem hv)).1
  have h4 := findT_id0 hv
  refine ⟨by omega, by omega, ?_⟩
  obtain ⟨_, h5⟩ := cnt_some hc
  rcases h5 with ⟨_, _, hn⟩ | ⟨t, ht, o, ho, _, hok, _⟩
  · obtain ⟨o, ho, hk, _⟩ := nx_some hr hn
    have := (hs.ids o ho).1
    omega
  · have := (hs.low t ht).2 o ho
    omega
theorem sh_sm {h : Hist} {a b : Int} (hs : ShOk a b h) (h2 : h.txs.length ≤ 12) (h3 : ∀ t ∈ h.txs, t.ops.length ≤ 24) (h4 : ∀ o ∈ h.ords, o.txs.length ≤ 24) (hm : HistSm h) : HistSm (shH a b h) := by
  have ha := hs.a0
  have hb := hs.b0
  refine ⟨fun t ht => ?_, fun o ho => ?_, by show (h.txs.map _).length ≤ _; rw [List.length_map]; omega, fun t ht => ?_, fun o ho => ?_⟩
  · obtain ⟨x, hx, rfl⟩ := List.mem_map.1 ht
    have h5 := (hs.low x hx).1
    refine ⟨by show i64 (x.id + a); unfold i64; omega, fun o ho => ?_⟩
    obtain ⟨y, hy, rfl⟩ := List.mem_map.1 ho
    obtain ⟨k1, k2, k3⟩ := (hs.ops x hx).2 y hy
    have k4 := (hs.low x hx).2 y hy
    obtain ⟨k5, k6, k7⟩ := (hm.txs x hx).2 y hy
    unfold Opr.ok
    refine ⟨by show _ ≤ y.k + b ∧ y.k + b ≤ _; omega, ?_, k7⟩
    show _ ≤ (if y.rd = true ∧ y.t ≠ 0 then y.t + a else y.t) ∧ (if y.rd = true ∧ y.t ≠ 0 then y.t + a else y.t) ≤ _
    split
    · rename_i hh
      have := k3 hh.1
      omega
    · exact k6
  · obtain ⟨x, hx, rfl⟩ := List.mem_map.1 ho
    obtain ⟨k1, _, k2⟩ := hs.ids x hx
    refine ⟨by show i64 (x.key + b); unfold i64; omega, fun y hy => ?_⟩
    obtain ⟨z, hz, rfl⟩ := List.mem_map.1 hy
    have := k2 z hz
    show i64 (z + a)
    unfold i64
    omega
  · obtain ⟨x, hx, rfl⟩ := List.mem_map.1 ht
    have := h3 x hx
    show (x.ops.map _).length ≤ _
    rw [List.length_map]
    omega
  · obtain ⟨x, hx, rfl⟩ := List.mem_map.1 ho
    have := h4 x hx
    show (x.txs.map _).length ≤ _
    rw [List.length_map]
    omega
set_option maxRecDepth 100000 in
set_option maxHeartbeats 32000000 in
theorem moved {v u : Value} {h : Hist} (w : World) (hh : HistV w v u h) (ht : ∀ t ∈ h.txs, Txn.ok t) (ho : ∀ o ∈ h.ords, Ordr.ok o) (a b : Int) : Calls Try.prog 3 #[.agg #[v, u], .int .i64 a, .int .i64 b] w (TrueP w) := by
  obtain ⟨p, c, hv, _⟩ := hh.1.form
  obtain ⟨q, d, hu, _⟩ := hh.2.form
  subst hv hu
  have HSM := Lib.hid (fun e : lightB h = true => light_smS ht ho e)
  have HH := Lib.hid hh
  obtain ⟨n1, hn1⟩ : ∃ n, n = h.txs.length := ⟨_, rfl⟩
  obtain ⟨n2, hn2⟩ : ∃ n, n = h.ords.length := ⟨_, rfl⟩
  rw [← hn1, ← hn2] at HH
  rw [← hn1, ← hn2]
  clear hh ht ho hn1 hn2
  obtain ⟨X, hX⟩ : ∃ X, X = w.alloc (.cells #[.slice p n1 c, .slice q n2 d] 25) := ⟨_, rfl⟩
  have HA : Hid (Aft w X) := Lib.hid (by rw [hX]; exact Aft.one _)
  have HC : Hid (∀ Z, Aft X Z → (Z.cell? ⟨w.heap.size, 0, none⟩ = some (.slice p n1 c) ∧ Z.cell? ⟨w.heap.size, 1, none⟩ = some (.slice q n2 d)) ∧ w.heap.size < Z.heap.size) := Lib.hid fun Z hZ => by
    have e : X.heap[w.heap.size]? = some (.cells #[.slice p n1 c, .slice q n2 d] 25) := by rw [hX]; exact heap_alloc_at _ _ _ rfl
    have k := (hZ.block _ (heap_lt e)).trans e
    exact ⟨by simp [World.cell?, k], heap_lt k⟩
  have HV : Hid (∀ W, Aft X W → HistV W (.slice p n1 c) (.slice q n2 d) h) := Lib.hid fun W hW => HH.out.below (HA.out.trans hW)
  have HL : Hid (∀ W, Aft X W → Calls Try.prog 5 #[.agg #[.slice p n1 c, .slice q n2 d]] W (BoolNew (lightB h) W)) := Lib.hid fun W hW => rlight_any W (HV.out W hW)
  have HLW : Hid (∀ W, Aft X W → Calls Try.prog 6 #[.agg #[.slice p n1 c, .slice q n2 d], .int .i64 1000000] W (BoolNew (lowB 1000000 h) W)) := Lib.hid fun W hW => low_any W (HV.out W hW)
  have HR : Hid (lightB h = true → ∀ W, Aft X W → Calls Try.prog 7 #[.agg #[.slice p n1 c, .slice q n2 d]] W (BoolNew (rightH h) W)) := Lib.hid fun e W hW => Hi.right_any W (HV.out W hW) (sm_ok (HSM.out e).1)
  have HE : Hid (∀ W, Aft X W → TrueP w (.returned (.bool true)) W) := Lib.hid fun W hW => ⟨rfl, HA.out.trans hW⟩
  generalize TrueP w = Post at HE ⊢
  obtain ⟨lb, hlb⟩ : ∃ b, b = lightB h := ⟨_, rfl⟩
  obtain ⟨lw, hlw⟩ : ∃ b, b = lowB 1000000 h := ⟨_, rfl⟩
  obtain ⟨rr, hrr⟩ : ∃ b, b = rightH h := ⟨_, rfl⟩
  have HRR : Hid (rr = true → rightH h = true) := Lib.hid fun e => by rw [← hrr]; exact e
  have HLL : Hid (lw = true → lowH 1000000 h) := Lib.hid fun e => lowB_iff.1 (by rw [← hlw]; exact e)
  rw [← hlb] at HSM HL HR
  rw [← hlw] at HLW
  rw [← hrr] at HR
  clear hlb hrr hlw
  go_enter Try.func3, Try.ntmps3
  go_upto_region 1 with fail
  rw [← hX]
  clear hX HH
  go_wp2_with fail
  refine (begins_any X).mono ?_
  rintro e w1 ⟨rfl, ha⟩
  have HA1 := Lib.hid ha
  obtain ⟨⟨c0, c1⟩, hbl⟩ := HC.out w1 ha
  clear ha
  cases lb with
  | false =>
    clear HSM HR HRR HLL HLW
    go_wp2_with fail
    refine (HL.out w1 HA1.out).mono ?_
    rintro e w2 ⟨rfl, ha⟩
    have HF := Lib.hid (HE.out w2 (HA1.out.trans ha))
    clear ha HL HC HV HE c0 c1 hbl HA1
    go_wp2_with fail
    exact HF.out
  | true =>
    have HS := Lib.hid (HSM.out rfl)
    have HR2 := Lib.hid (HR.out rfl)
    clear HSM HR
    go_wp2_with fail
    refine (HL.out w1 HA1.out).mono ?_
    rintro e w2 ⟨rfl, ha⟩
    have HA2 := Lib.hid (HA1.out.trans ha)
    clear ha HL c0 c1 hbl HA1
    obtain ⟨⟨c0, c1⟩, hbl⟩ := HC.out w2 HA2.out
    cases lw with
    | false =>
      clear HR2 HRR HLL HS
      go_wp2_with fail
      refine (HLW.out w2 HA2.out).mono ?_
      rintro e w3 ⟨rfl, ha⟩
      have HF := Lib.hid (HE.out w3 (HA2.out.trans ha))
      clear ha HLW HC HV HE c0 c1 hbl HA2
      go_wp2_with fail
      exact HF.out
    | true =>
      have HLO := Lib.hid (HLL.out rfl)
      clear HLL
      go_wp2_with fail
      refine (HLW.out w2 HA2.out).mono ?_
      rintro e w3 ⟨rfl, ha⟩
      have HA3 := Lib.hid (HA2.out.trans ha)
      clear ha HLW c0 c1 hbl HA2
      obtain ⟨⟨c0, c1⟩, hbl⟩ := HC.out w3 HA3.out
      by_cases ha1 : a < 0
      · have HF := Lib.hid (HE.out w3 HA3.out)
        clear HR2 HRR HS HLO HC HV HE c0 c1 hbl HA3
        go_wp2_with fail
        exact HF.out
      by_cases ha2 : 40000 < a
      · have HF := Lib.hid (HE.out w3 HA3.out)
        clear HR2 HRR HS HLO HC HV HE c0 c1 hbl HA3
        go_wp2_with fail
        exact HF.out
      by_cases hb1 : b < 0
      · have HF := Lib.hid (HE.out w3 HA3.out)
        clear HR2 HRR HS HLO HC HV HE c0 c1 hbl HA3
        go_wp2_with fail
        exact HF.out
      by_cases hb2 : 40000 < b
      · have HF := Lib.hid (HE.out w3 HA3.out)
        clear HR2 HRR HS HLO HC HV HE c0 c1 hbl HA3
        go_wp2_with fail
        exact HF.out
      go_wp2_with fail
      refine (HR2.out w3 HA3.out).mono ?_
      rintro e w4 ⟨rfl, ha⟩
      have HA4 := Lib.hid (HA3.out.trans ha)
      clear ha HR2 c0 c1 hbl HA3
      cases rr with
      | false =>
        have HF := Lib.hid (HE.out w4 HA4.out)
        clear HE HC HV HA4 HRR HS HLO
        go_wp2_with fail
        exact HF.out
      | true =>
        have HRT := Lib.hid (HRR.out rfl)
        have HAB : Hid ((0 ≤ a ∧ a ≤ 40000) ∧ (0 ≤ b ∧ b ≤ 40000)) := Lib.hid ⟨by omega, by omega⟩
        have HOK : Hid (ShOk a b h) := Lib.hid (sh_ok HAB.out.1 HAB.out.2 HRT.out HLO.out HS.out.2.1 HS.out.2.2.1 HS.out.2.2.2.1 HS.out.2.2.2.2)
        have HSS : Hid (HistSm (shH a b h)) := Lib.hid (sh_sm HOK.out HS.out.2.2.1 HS.out.2.2.2.1 HS.out.2.2.2.2 HS.out.1)
        have HSH : Hid (∀ W, Aft X W → Calls Try.prog 8 #[.agg #[.slice p n1 c, .slice q n2 d], .int .i64 a, .int .i64 b] W (ShP a b h W)) := Lib.hid fun W hW => shifted_any W (HV.out W hW) HOK.out
        obtain ⟨⟨c0, c1⟩, hbl⟩ := HC.out w4 HA4.out
        clear HRR
        go_wp2_with fail
        clear ha1 ha2 hb1 hb2
        refine (HSH.out w4 HA4.out).mono ?_
        rintro e w5 ⟨v2, u2, rfl, hh2, ha⟩
        obtain ⟨vp, vc, hv2, _⟩ := hh2.1.form
        obtain ⟨up, uc, hu2, _⟩ := hh2.2.form
        subst hv2 hu2
        have HH2 := Lib.hid hh2
        have HA5 := Lib.hid (HA4.out.trans ha)
        obtain ⟨vn, hvn⟩ : ∃ n, n = (shH a b h).txs.length := ⟨_, rfl⟩
        obtain ⟨un, hun⟩ : ∃ n, n = (shH a b h).ords.length := ⟨_, rfl⟩
        rw [← hvn, ← hun] at HH2
        rw [← hvn, ← hun]
        clear hh2 ha hvn hun c0 c1 hbl HSH HA4
        obtain ⟨⟨c0, c1⟩, hbl⟩ := HC.out w5 HA5.out
        obtain ⟨Y, hY⟩ : ∃ Y, Y = w5.alloc (.cells #[.slice vp vn vc, .slice up un uc] 25) := ⟨_, rfl⟩
        have HYA : Hid (Aft w5 Y) := Lib.hid (by rw [hY]; exact Aft.one _)
        have HYB : Hid (Y.heap[w5.heap.size]? = some (boxHi (.slice vp vn vc) (.slice up un uc))) := Lib.hid (by rw [hY]; exact heap_alloc_at _ _ _ rfl)
        go_upto_region 6 with fail
        rw [← hY]
        clear hY c0 c1 hbl
        obtain ⟨W0, hW0⟩ : ∃ W, W = Y.drew := ⟨_, rfl⟩
        have HW0 : Hid (Aft Y W0) := Lib.hid (by rw [hW0]; exact (Aft.refl _).drew 1)
        have HA6 : Hid (Aft X W0) := Lib.hid (HA5.out.trans (HYA.out.trans HW0.out))
        have HC3 : Hid (∀ Z, Aft W0 Z → (Z.cell? ⟨w.heap.size, 0, none⟩ = some (.slice p n1 c) ∧ Z.cell? ⟨w.heap.size, 1, none⟩ = some (.slice q n2 d)) ∧ (Z.cell? ⟨w5.heap.size, 0, none⟩ = some (.slice vp vn vc) ∧ Z.cell? ⟨w5.heap.size, 1, none⟩ = some (.slice up un uc))) := Lib.hid fun Z hZ => ⟨(HC.out Z (HA6.out.trans hZ)).1, (cellsHi ((hZ.block _ (by have := heap_lt HYB.out; have := HW0.out.size; omega)).trans ((HW0.out.block _ (heap_lt HYB.out)).trans HYB.out))).2.1⟩
        have HED : Hid (∀ W, Aft X W → Calls Try.prog 9 #[.agg #[.slice p n1 c, .slice q n2 d]] W (fun e w' => ∃ v, e = .returned v ∧ (∃ l, Lists (cntE h fun _ => true) l ∧ l.length ≤ 1000000 ∧ Hvys 0 w' v l) ∧ Aft W w')) := Lib.hid fun W hW => (edges_any W (HV.out W hW) HS.out.1 (by have := HS.out.2.1; omega)).mono fun e w' ⟨v, l, he, h1, h2, h3, h4⟩ => ⟨v, he, ⟨l, h1, h2, (h3.list (by omega)).mono (Nat.zero_le _)⟩, h4⟩
        have HHW : Hid (∀ W, Aft W0 W → HistV W (.slice vp vn vc) (.slice up un uc) (shH a b h)) := Lib.hid fun W hW => HH2.out.below (HYA.out.trans (HW0.out.trans hW))
        have HEM : Hid (∀ W, Aft W0 W → Calls Try.prog 9 #[.agg #[.slice vp vn vc, .slice up un uc]] W (fun e w' => ∃ v, e = .returned v ∧ (∃ l, Lists (cntE (shH a b h) fun _ => true) l ∧ Hvys 0 w' v l) ∧ Aft W w')) := Lib.hid fun W hW => (edges_any W (HHW.out W hW) HSS.out (by have := HS.out.2.1; show (h.ords.map _).length ≤ _; rw [List.length_map]; omega)).mono fun e w' ⟨v, l, he, h1, h2, h3, h4⟩ => ⟨v, he, ⟨l, h1, (h3.list (by omega)).mono (Nat.zero_le _)⟩, h4⟩
        have HRG : Hid (∀ W, Aft W0 W → Calls Try.prog 7 #[.agg #[.slice vp vn vc, .slice up un uc]] W (BoolNew true W)) := Lib.hid fun W hW => by
          have := Hi.right_any W (HHW.out W hW) (sm_ok HSS.out)
          rw [sh_rightH HAB.out.1 HAB.out.2 HRT.out HLO.out] at this
          exact this
        refine wp_region_held_drew (S := fun Z => (Z.cell? ⟨w.heap.size, 0, none⟩ = some (.slice p n1 c) ∧ Z.cell? ⟨w.heap.size, 1, none⟩ = some (.slice q n2 d)) ∧ (Z.cell? ⟨w5.heap.size, 0, none⟩ = some (.slice vp vn vc) ∧ Z.cell? ⟨w5.heap.size, 1, none⟩ = some (.slice up un uc))) (by kernel_rfl) (hW0 ▸ HC3.out _ (Aft.refl _)) (fun hHeld0 => ?_)
        rw [← hW0] at hHeld0 ⊢
        clear hW0
        have HA4 : Hid (Aft X W0) := HA6
        refine wpAnyH_take (i := 0) (v := ?_) rfl (by kernel_rfl) (by kernel_rfl) (by kernel_rfl) (fun _ _ _ h => h) (Or.inl ⟨by rfl, ?yrc0⟩) (by assumption) ?qrc0
        case yrc0 => (intro wz hSw; (try dsimp only at hSw); go_simp <;> with_reducible rfl)
        try simp only [Act.put, List.getElem_toArray, List.getElem_cons_zero, List.setIfInBounds_toArray, List.set_cons_zero, List.set_cons_succ]
        refine wpAnyH_take (i := 2) (v := ?_) rfl (by kernel_rfl) (by kernel_rfl) (by kernel_rfl) (fun _ _ _ h => h) (Or.inl ⟨by rfl, ?yrc2⟩) (by assumption) ?qrc2
        case yrc2 => (intro wz hSw; (try dsimp only at hSw); go_simp <;> with_reducible rfl)
        try simp only [Act.put, List.getElem_toArray, List.getElem_cons_zero, List.getElem_cons_succ, List.setIfInBounds_toArray, List.set_cons_zero, List.set_cons_succ]
        refine wpAnyH_ready (rs := [1]) (by kernel_rfl) (by simp) ?_
        refine AllReadyH.cons rfl (fun K hK => ?_) AllReadyH.nil
        go_simp
        refine (HED.out W0 HA4.out).mono ?_
        rintro e u1 ⟨v1, rfl, hx, hb⟩
        have F1 := Lib.hid hx
        have B1 : Hid (Aft W0 u1) := Lib.hid hb
        clear hb hx
        refine hK.out _ _ (HC3.out _ B1.out) (fun hHeldrc1 => ?_)
        clear hK K
        try simp only [Act.put, List.getElem_toArray, List.getElem_cons_zero, List.getElem_cons_succ, List.setIfInBounds_toArray, List.set_cons_zero, List.set_cons_succ]
        refine wpAnyH_ready (rs := [3]) (by kernel_rfl) (by simp) ?_
        refine AllReadyH.cons rfl (fun K hK => ?_) AllReadyH.nil
        go_simp
        refine (HEM.out u1 B1.out).mono ?_
        rintro e u4 ⟨v4, rfl, hx, hb⟩
        have F4 := Lib.hid hx
        have G4 : Hid (Aft u1 u4) := Lib.hid hb
        have B4 : Hid (Aft W0 u4) := Lib.hid (B1.out.trans hb)
        clear hb hx
        refine hK.out _ _ (HC3.out _ B4.out) (fun hHeldrc3 => ?_)
        clear hK K
        try simp only [Act.put, List.getElem_toArray, List.getElem_cons_zero, List.getElem_cons_succ, List.setIfInBounds_toArray, List.set_cons_zero, List.set_cons_succ]
        refine wpAnyH_take (i := 4) (v := ?_) rfl (by kernel_rfl) (by kernel_rfl) (by kernel_rfl) (fun _ _ _ h => h) (Or.inl ⟨by rfl, ?yrc4⟩) (by assumption) ?qrc4
        case yrc4 => (intro wz hSw; (try dsimp only at hSw); go_simp <;> with_reducible rfl)
        try simp only [Act.put, List.getElem_toArray, List.getElem_cons_zero, List.getElem_cons_succ, List.setIfInBounds_toArray, List.set_cons_zero, List.set_cons_succ]
        refine wpAnyH_take (i := 5) (v := ?_) rfl (by kernel_rfl) (by kernel_rfl) (by kernel_rfl) (fun _ _ _ h => h) (Or.inl ⟨by rfl, ?yrc5⟩) (by assumption) ?qrc5
        case yrc5 => (intro wz hSw; (try dsimp only at hSw); go_simp <;> with_reducible rfl)
        try simp only [Act.put, List.getElem_toArray, List.getElem_cons_zero, List.getElem_cons_succ, List.setIfInBounds_toArray, List.set_cons_zero, List.set_cons_succ]
        refine wpAnyH_done (by kernel_rfl) ?_ _
        obtain ⟨l, hli, hll, hlv⟩ := F1.out
        obtain ⟨m, hmi, hmv⟩ := F4.out
        have hml := sh_lists HAB.out.1 HAB.out.2 HRT.out HLO.out hli hmi
        have hlv2 : Hvys 0 u4 v1 l := hlv.below G4.out
        obtain ⟨lp, lc, rfl, hl64, hlc⟩ := hlv2.open_
        obtain ⟨mp, mc, rfl, hm64, hmc⟩ := hmv.open_
        have hlen : m.length = l.length := by rw [hml, List.length_map]
        obtain ⟨w6, hw6⟩ : ∃ w6, w6 = u4 := ⟨_, rfl⟩
        rw [← hw6] at hlc hmc ⊢
        have HF0 : Hid (∀ W, Aft w6 W → Post (.returned (.bool true)) W) := Lib.hid fun W hW => HE.out W (HA4.out.trans (B4.out.trans (hw6 ▸ hW)))
        have HLC := Lib.hid hlc
        have HMC : Hid (∀ k, k < l.length → ∃ g o, mp = some ⟨g, o, none⟩ ∧ g < w6.heap.size ∧ w6.cell? ⟨g, o + k * 5, none⟩ = some (.int .i64 (shHv a b (l.getD k Hvy.zero)).f) ∧ w6.cell? ⟨g, o + k * 5 + 1, none⟩ = some (.int .i64 (shHv a b (l.getD k Hvy.zero)).t) ∧ w6.cell? ⟨g, o + k * 5 + 2, none⟩ = some (.int .i64 (shHv a b (l.getD k Hvy.zero)).kd) ∧ w6.cell? ⟨g, o + k * 5 + 3, none⟩ = some (.int .i64 (shHv a b (l.getD k Hvy.zero)).k) ∧ w6.cell? ⟨g, o + k * 5 + 4, none⟩ = some (.int .i64 (shHv a b (l.getD k Hvy.zero)).n)) := Lib.hid fun k hk => by
          obtain ⟨g, o, h1, _, h2, h3⟩ := hmc k (by omega)
          have e : m.getD k Hvy.zero = shHv a b (l.getD k Hvy.zero) := by rw [hml, List.getD_eq_getElem?_getD, List.getD_eq_getElem?_getD, List.getElem?_map, List.getElem?_eq_getElem hk]; rfl
          rw [e] at h3
          exact ⟨g, o, h1, h2, h3⟩
        have HNB : Hid (∀ k, k < l.length → (1 ≤ (l.getD k Hvy.zero).f ∧ (l.getD k Hvy.zero).f ≤ 1000000) ∧ (1 ≤ (l.getD k Hvy.zero).t ∧ (l.getD k Hvy.zero).t ≤ 1000000) ∧ (0 ≤ (l.getD k Hvy.zero).k ∧ (l.getD k Hvy.zero).k ≤ 2000000)) := Lib.hid fun k hk => sh_bd HOK.out HRT.out (hli.mem (getD_mem' Hvy.zero hk)).2
        have HRQ : Hid (Calls Try.prog 7 #[.agg #[.slice vp vn vc, .slice up un uc]] w6 (BoolNew true w6)) := Lib.hid (HRG.out w6 (by rw [hw6]; exact B4.out))
        obtain ⟨⟨-, -⟩, c0, c1⟩ := HC3.out w6 (by rw [hw6]; exact B4.out)
        have hbl : w5.heap.size < w6.heap.size := Nat.lt_of_lt_of_le (heap_lt HYB.out) (Nat.le_trans HW0.out.size (by rw [hw6]; exact B4.out.size))
        rw [hlen]
        obtain ⟨ln, hln⟩ : ∃ n, n = l.length := ⟨_, rfl⟩
        rw [← hln] at hll HLC HMC HNB ⊢
        obtain ⟨⟨a0, a1⟩, b0, b1⟩ := HAB.out
        clear hHeld0 hln hlen hw6 hlc hmc hml hlv2 hmv hlv hli hmi hl64 hm64 F1 F4 G4 B1 B4 HA4 HA5 HA6 HYA HYB HW0 HE HC HC3 HS HSS HED HEM HHW HRG HOK HRT HLO HAB HV HH2 HA
        go_wp2_with fail
        refine HRQ.out.mono ?_
        rintro e w7 ⟨rfl, hb⟩
        have HW0 : Hid (Aft w6 w7) := Lib.hid hb
        clear hb HRQ c0 c1 hbl
        go_wp2_with fail
        go_loopw [64] (fun s64 wr => ∃ k : Nat, s64 = .int .i64 (k : Int) ∧ k ≤ ln ∧ Hid (Aft w6 wr)) (fun s64 _ => ln - (intOf s64).toNat)
        case atStart => exact ⟨0, rfl, Nat.zero_le _, HW0⟩
        case round =>
          clear HW0
          obtain ⟨k, rfl, hk, HW⟩ := hrel
          obtain ⟨wB, hwB⟩ : ∃ wB, wB = wr := ⟨_, rfl⟩
          subst hwB
          by_cases hlt : k < ln
          · obtain ⟨g, o, e1, _, hg, c0, c1, c2, c3, c4⟩ := HLC.out k hlt
            obtain ⟨g2, o2, e2, hg2, d0, d1, d2, d3, d4⟩ := HMC.out k hlt
            subst e1 e2
            have c0 := HW.out.cell hg c0
            have c1 := HW.out.cell hg c1
            have c2 := HW.out.cell hg c2
            have c3 := HW.out.cell hg c3
            have c4 := HW.out.cell hg c4
            have hg := Nat.lt_of_lt_of_le hg HW.out.size
            have d0 := HW.out.cell hg2 d0
            have d1 := HW.out.cell hg2 d1
            have d2 := HW.out.cell hg2 d2
            have d3 := HW.out.cell hg2 d3
            have d4 := HW.out.cell hg2 d4
            have hg2 := Nat.lt_of_lt_of_le hg2 HW.out.size
            have hkI : (k : Int) < (ln : Int) := by omega
            obtain ⟨⟨y0, y1⟩, ⟨y2, y3⟩, y4, y5⟩ := HNB.out k hlt
            have HKL : Hid (k < ln ∧ ln ≤ 1000000) := Lib.hid ⟨hlt, hll⟩
            generalize l.getD k Hvy.zero = x at c0 c1 c2 c3 c4 d0 d1 d2 d3 d4 y0 y1 y2 y3 y4 y5
            obtain ⟨x0, x1, x2, x3, x4⟩ := x
            unfold shHv at d0 d1 d2 d3 d4
            dsimp only at c0 c1 c2 c3 c4 d0 d1 d2 d3 d4 y0 y1 y2 y3 y4 y5
            obtain ⟨Y1, hY1⟩ : ∃ Z, Z = (wB.alloc (.cells #[.int .i64 x0, .int .i64 x1, .int .i64 x2, .int .i64 x3, .int .i64 x4] 35)).alloc (.cells #[.int .i64 x0, .int .i64 x1, .int .i64 x2, .int .i64 x3] 33) := ⟨_, rfl⟩
            have HY1 : Hid (Aft wB Y1) := Lib.hid (by rw [hY1]; exact (Aft.one _).lay _)
            obtain ⟨D, hD⟩ : ∃ D, D = Y1.drew := ⟨_, rfl⟩
            have HD0 : Hid (Aft wB D) := Lib.hid (by rw [hD]; exact HY1.out.drew 1)
            have HYE : Hid ((Y1.cell? ⟨wB.heap.size, 0, none⟩ = some (.int .i64 x0) ∧ Y1.cell? ⟨wB.heap.size, 1, none⟩ = some (.int .i64 x1) ∧ Y1.cell? ⟨wB.heap.size, 2, none⟩ = some (.int .i64 x2) ∧ Y1.cell? ⟨wB.heap.size, 3, none⟩ = some (.int .i64 x3) ∧ Y1.cell? ⟨wB.heap.size, 4, none⟩ = some (.int .i64 x4)) ∧ (Y1.cell? ⟨wB.heap.size + 1, 0, none⟩ = some (.int .i64 x0) ∧ Y1.cell? ⟨wB.heap.size + 1, 1, none⟩ = some (.int .i64 x1) ∧ Y1.cell? ⟨wB.heap.size + 1, 2, none⟩ = some (.int .i64 x2) ∧ Y1.cell? ⟨wB.heap.size + 1, 3, none⟩ = some (.int .i64 x3)) ∧ (Y1.cell? ⟨g2, o2 + k * 5, none⟩ = some (.int .i64 (x0 + a)) ∧ Y1.cell? ⟨g2, o2 + k * 5 + 1, none⟩ = some (.int .i64 (x1 + a)) ∧ Y1.cell? ⟨g2, o2 + k * 5 + 2, none⟩ = some (.int .i64 x2) ∧ Y1.cell? ⟨g2, o2 + k * 5 + 3, none⟩ = some (.int .i64 (x3 + b)) ∧ Y1.cell? ⟨g2, o2 + k * 5 + 4, none⟩ = some (.int .i64 x4))) := Lib.hid (by
              have e : Y1.heap[wB.heap.size]? = some (.cells #[.int .i64 x0, .int .i64 x1, .int .i64 x2, .int .i64 x3, .int .i64 x4] 35) := by rw [hY1]; exact heap_alloc_lt _ _ _ _ (heap_alloc_at _ _ _ rfl)
              have e' : Y1.heap[wB.heap.size + 1]? = some (.cells #[.int .i64 x0, .int .i64 x1, .int .i64 x2, .int .i64 x3] 33) := by rw [hY1]; exact heap_alloc_at _ _ _ (by simp)
              refine ⟨by simp [World.cell?, e], (by simp [World.cell?, e']), HY1.out.cell hg2 d0, HY1.out.cell hg2 d1, HY1.out.cell hg2 d2, HY1.out.cell hg2 d3, HY1.out.cell hg2 d4⟩)
            have HLT : Hid (wB.heap.size < Y1.heap.size ∧ wB.heap.size + 1 < Y1.heap.size ∧ g2 < Y1.heap.size) := Lib.hid ⟨by rw [hY1]; simp; omega, by rw [hY1]; simp, Nat.lt_of_lt_of_le hg2 HY1.out.size⟩
            have HFIN : Hid (Aft w6 D) := Lib.hid (HW.out.trans HD0.out)
            have heq := fun W => ne_self (x0 + a) (x1 + a) x2 (x3 + b) W
            have hw0 : IntKind.i64.wrap (x0 + a) = x0 + a := by rw [IntKind.wrap_i64]; omega
            have hw1 : IntKind.i64.wrap (x1 + a) = x1 + a := by rw [IntKind.wrap_i64]; omega
            have hw3 : IntKind.i64.wrap (x3 + b) = x3 + b := by rw [IntKind.wrap_i64]; omega
            go_upto_region 13 with fail
            rw [← hY1]
            clear hY1 c0 c1 c2 c3 c4 d0 d1 d2 d3 d4 hg hg2
            obtain ⟨⟨c0, c1, c2, c3, c4⟩, ⟨f0, f1, f2, f3⟩, d0, d1, d2, d3, d4⟩ := HYE.out
            obtain ⟨l1, l2, l3⟩ := HLT.out
            have HYD : Hid ((D.cell? ⟨wB.heap.size, 0, none⟩ = some (.int .i64 x0) ∧ D.cell? ⟨wB.heap.size, 1, none⟩ = some (.int .i64 x1) ∧ D.cell? ⟨wB.heap.size, 2, none⟩ = some (.int .i64 x2) ∧ D.cell? ⟨wB.heap.size, 3, none⟩ = some (.int .i64 x3) ∧ D.cell? ⟨wB.heap.size, 4, none⟩ = some (.int .i64 x4)) ∧ (D.cell? ⟨wB.heap.size + 1, 0, none⟩ = some (.int .i64 x0) ∧ D.cell? ⟨wB.heap.size + 1, 1, none⟩ = some (.int .i64 x1) ∧ D.cell? ⟨wB.heap.size + 1, 2, none⟩ = some (.int .i64 x2) ∧ D.cell? ⟨wB.heap.size + 1, 3, none⟩ = some (.int .i64 x3)) ∧ (D.cell? ⟨g2, o2 + k * 5, none⟩ = some (.int .i64 (x0 + a)) ∧ D.cell? ⟨g2, o2 + k * 5 + 1, none⟩ = some (.int .i64 (x1 + a)) ∧ D.cell? ⟨g2, o2 + k * 5 + 2, none⟩ = some (.int .i64 x2) ∧ D.cell? ⟨g2, o2 + k * 5 + 3, none⟩ = some (.int .i64 (x3 + b)) ∧ D.cell? ⟨g2, o2 + k * 5 + 4, none⟩ = some (.int .i64 x4))) := Lib.hid (by rw [hD]; exact HYE.out)
            refine wp_region_held_drew (S := fun Z => (Z.cell? ⟨wB.heap.size, 0, none⟩ = some (.int .i64 x0) ∧ Z.cell? ⟨wB.heap.size, 1, none⟩ = some (.int .i64 x1) ∧ Z.cell? ⟨wB.heap.size, 2, none⟩ = some (.int .i64 x2) ∧ Z.cell? ⟨wB.heap.size, 3, none⟩ = some (.int .i64 x3) ∧ Z.cell? ⟨wB.heap.size, 4, none⟩ = some (.int .i64 x4)) ∧ (Z.cell? ⟨wB.heap.size + 1, 0, none⟩ = some (.int .i64 x0) ∧ Z.cell? ⟨wB.heap.size + 1, 1, none⟩ = some (.int .i64 x1) ∧ Z.cell? ⟨wB.heap.size + 1, 2, none⟩ = some (.int .i64 x2) ∧ Z.cell? ⟨wB.heap.size + 1, 3, none⟩ = some (.int .i64 x3)) ∧ (Z.cell? ⟨g2, o2 + k * 5, none⟩ = some (.int .i64 (x0 + a)) ∧ Z.cell? ⟨g2, o2 + k * 5 + 1, none⟩ = some (.int .i64 (x1 + a)) ∧ Z.cell? ⟨g2, o2 + k * 5 + 2, none⟩ = some (.int .i64 x2) ∧ Z.cell? ⟨g2, o2 + k * 5 + 3, none⟩ = some (.int .i64 (x3 + b)) ∧ Z.cell? ⟨g2, o2 + k * 5 + 4, none⟩ = some (.int .i64 x4))) (by kernel_rfl) (by rw [← hD]; exact HYD.out) (fun hHeld0 => ?_)
            rw [← hD] at hHeld0 ⊢
            clear hD
            refine wpAnyH_take (i := 0) (v := ?_) rfl (by kernel_rfl) (by kernel_rfl) (by kernel_rfl) (fun _ _ _ h => h) (Or.inl ⟨by rfl, ?yra0⟩) (by assumption) ?qra0
            case yra0 => (intro wz hSw; (try dsimp only at hSw); go_simp <;> with_reducible rfl)
            try simp only [Act.put, List.getElem_toArray, List.getElem_cons_zero, List.setIfInBounds_toArray, List.set_cons_zero, List.set_cons_succ]
            refine wpAnyH_take (i := 1) (v := ?_) rfl (by kernel_rfl) (by kernel_rfl) (by kernel_rfl) (fun _ _ _ h => h) (Or.inl ⟨by rfl, ?yra1⟩) (by assumption) ?qra1
            case yra1 => (intro wz hSw; (try dsimp only at hSw); go_simp <;> with_reducible rfl)
            try simp only [Act.put, List.getElem_toArray, List.getElem_cons_zero, List.getElem_cons_succ, List.setIfInBounds_toArray, List.set_cons_zero, List.set_cons_succ]
            refine wpAnyH_take (i := 2) (v := ?_) rfl (by kernel_rfl) (by kernel_rfl) (by kernel_rfl) (fun _ _ _ h => h) (Or.inl ⟨by rfl, ?yra2⟩) (by assumption) ?qra2
            case yra2 => (intro wz hSw; (try dsimp only at hSw); go_simp <;> with_reducible rfl)
            try simp only [Act.put, List.getElem_toArray, List.getElem_cons_zero, List.getElem_cons_succ, List.setIfInBounds_toArray, List.set_cons_zero, List.set_cons_succ]
            refine wpAnyH_take (i := 3) (v := ?_) rfl (by kernel_rfl) (by kernel_rfl) (by kernel_rfl) (fun _ _ _ h => h) (Or.inl ⟨by rfl, ?yra3⟩) (by assumption) ?qra3
            case yra3 => (intro wz hSw; (try dsimp only at hSw); go_simp <;> with_reducible rfl)
            try simp only [Act.put, List.getElem_toArray, List.getElem_cons_zero, List.getElem_cons_succ, List.setIfInBounds_toArray, List.set_cons_zero, List.set_cons_succ]
            refine wpAnyH_take (i := 4) (v := ?_) rfl (by kernel_rfl) (by kernel_rfl) (by kernel_rfl) (fun _ _ _ h => h) (Or.inl ⟨by rfl, ?yra4⟩) (by assumption) ?qra4
            case yra4 => (intro wz hSw; (try dsimp only at hSw); go_simp <;> with_reducible rfl)
            try simp only [Act.put, List.getElem_toArray, List.getElem_cons_zero, List.getElem_cons_succ, List.setIfInBounds_toArray, List.set_cons_zero, List.set_cons_succ]
            refine wpAnyH_take (i := 5) (v := ?_) rfl (by kernel_rfl) (by kernel_rfl) (by kernel_rfl) (fun _ _ _ h => h) (Or.inl ⟨by rfl, ?yra5⟩) (by assumption) ?qra5
            case yra5 => (intro wz hSw; (try dsimp only at hSw); go_simp <;> with_reducible rfl)
            try simp only [Act.put, List.getElem_toArray, List.getElem_cons_zero, List.getElem_cons_succ, List.setIfInBounds_toArray, List.set_cons_zero, List.set_cons_succ]
            refine wpAnyH_take (i := 6) (v := ?_) rfl (by kernel_rfl) (by kernel_rfl) (by kernel_rfl) (fun _ _ _ h => h) (Or.inl ⟨by rfl, ?yra6⟩) (by assumption) ?qra6
            case yra6 => (intro wz hSw; (try dsimp only at hSw); go_simp <;> with_reducible rfl)
            try simp only [Act.put, List.getElem_toArray, List.getElem_cons_zero, List.getElem_cons_succ, List.setIfInBounds_toArray, List.set_cons_zero, List.set_cons_succ]
            refine wpAnyH_take (i := 7) (v := ?_) rfl (by kernel_rfl) (by kernel_rfl) (by kernel_rfl) (fun _ _ _ h => h) (Or.inl ⟨by rfl, ?yra7⟩) (by assumption) ?qra7
            case yra7 => (intro wz hSw; (try dsimp only at hSw); go_simp <;> with_reducible rfl)
            try simp only [Act.put, List.getElem_toArray, List.getElem_cons_zero, List.getElem_cons_succ, List.setIfInBounds_toArray, List.set_cons_zero, List.set_cons_succ]
            refine wpAnyH_take (i := 8) (v := ?_) rfl (by kernel_rfl) (by kernel_rfl) (by kernel_rfl) (fun _ _ _ h => h) (Or.inl ⟨by rfl, ?yra8⟩) (by assumption) ?qra8
            case yra8 => (intro wz hSw; (try dsimp only at hSw); go_simp <;> with_reducible rfl)
            try simp only [Act.put, List.getElem_toArray, List.getElem_cons_zero, List.getElem_cons_succ, List.setIfInBounds_toArray, List.set_cons_zero, List.set_cons_succ]
            refine wpAnyH_take (i := 9) (v := ?_) rfl (by kernel_rfl) (by kernel_rfl) (by kernel_rfl) (fun _ _ _ h => h) (Or.inl ⟨by rfl, ?yra9⟩) (by assumption) ?qra9
            case yra9 => (intro wz hSw; (try dsimp only at hSw); go_simp <;> with_reducible rfl)
            try simp only [Act.put, List.getElem_toArray, List.getElem_cons_zero, List.getElem_cons_succ, List.setIfInBounds_toArray, List.set_cons_zero, List.set_cons_succ]
            refine wpAnyH_take (i := 10) (v := ?_) rfl (by kernel_rfl) (by kernel_rfl) (by kernel_rfl) (fun _ _ _ h => h) (Or.inl ⟨by rfl, ?yra10⟩) (by assumption) ?qra10
            case yra10 => (intro wz hSw; (try dsimp only at hSw); go_simp <;> with_reducible rfl)
            try simp only [Act.put, List.getElem_toArray, List.getElem_cons_zero, List.getElem_cons_succ, List.setIfInBounds_toArray, List.set_cons_zero, List.set_cons_succ]
            refine wpAnyH_take (i := 11) (v := ?_) rfl (by kernel_rfl) (by kernel_rfl) (by kernel_rfl) (fun _ _ _ h => h) (Or.inl ⟨by rfl, ?yra11⟩) (by assumption) ?qra11
            case yra11 => (intro wz hSw; (try dsimp only at hSw); go_simp <;> with_reducible rfl)
            try simp only [Act.put, List.getElem_toArray, List.getElem_cons_zero, List.getElem_cons_succ, List.setIfInBounds_toArray, List.set_cons_zero, List.set_cons_succ]
            refine wpAnyH_take (i := 12) (v := ?_) rfl (by kernel_rfl) (by kernel_rfl) (by kernel_rfl) (fun _ _ _ h => h) (Or.inl ⟨by rfl, ?yra12⟩) (by assumption) ?qra12
            case yra12 => (intro wz hSw; (try dsimp only at hSw); go_simp <;> with_reducible rfl)
            try simp only [Act.put, List.getElem_toArray, List.getElem_cons_zero, List.getElem_cons_succ, List.setIfInBounds_toArray, List.set_cons_zero, List.set_cons_succ]
            refine wpAnyH_take (i := 13) (v := ?_) rfl (by kernel_rfl) (by kernel_rfl) (by kernel_rfl) (fun _ _ _ h => h) (Or.inl ⟨by rfl, ?yra13⟩) (by assumption) ?qra13
            case yra13 => (intro wz hSw; (try dsimp only at hSw); go_simp <;> with_reducible rfl)
            try simp only [Act.put, List.getElem_toArray, List.getElem_cons_zero, List.getElem_cons_succ, List.setIfInBounds_toArray, List.set_cons_zero, List.set_cons_succ]
            refine wpAnyH_take (i := 14) (v := ?_) rfl (by kernel_rfl) (by kernel_rfl) (by kernel_rfl) (fun _ _ _ h => h) (Or.inl ⟨by rfl, ?yra14⟩) (by assumption) ?qra14
            case yra14 => (intro wz hSw; (try dsimp only at hSw); go_simp <;> with_reducible rfl)
            try simp only [Act.put, List.getElem_toArray, List.getElem_cons_zero, List.getElem_cons_succ, List.setIfInBounds_toArray, List.set_cons_zero, List.set_cons_succ]
            refine wpAnyH_take (i := 15) (v := ?_) rfl (by kernel_rfl) (by kernel_rfl) (by kernel_rfl) (fun _ _ _ h => h) (Or.inl ⟨by rfl, ?yra15⟩) (by assumption) ?qra15
            case yra15 => (intro wz hSw; (try dsimp only at hSw); go_simp <;> with_reducible rfl)
            try simp only [Act.put, List.getElem_toArray, List.getElem_cons_zero, List.getElem_cons_succ, List.setIfInBounds_toArray, List.set_cons_zero, List.set_cons_succ]
            refine wpAnyH_take (i := 16) (v := ?_) rfl (by kernel_rfl) (by kernel_rfl) (by kernel_rfl) (fun _ _ _ h => h) (Or.inl ⟨by rfl, ?yra16⟩) (by assumption) ?qra16
            case yra16 => (intro wz hSw; (try dsimp only at hSw); go_simp <;> with_reducible rfl)
            try simp only [Act.put, List.getElem_toArray, List.getElem_cons_zero, List.getElem_cons_succ, List.setIfInBounds_toArray, List.set_cons_zero, List.set_cons_succ]
            refine wpAnyH_take (i := 17) (v := ?_) rfl (by kernel_rfl) (by kernel_rfl) (by kernel_rfl) (fun _ _ _ h => h) (Or.inl ⟨by rfl, ?yra17⟩) (by assumption) ?qra17
            case yra17 => (intro wz hSw; (try dsimp only at hSw); go_simp <;> with_reducible rfl)
            try simp only [Act.put, List.getElem_toArray, List.getElem_cons_zero, List.getElem_cons_succ, List.setIfInBounds_toArray, List.set_cons_zero, List.set_cons_succ]
            refine wpAnyH_take (i := 18) (v := ?_) rfl (by kernel_rfl) (by kernel_rfl) (by kernel_rfl) (fun _ _ _ h => h) (Or.inl ⟨by rfl, ?yra18⟩) (by assumption) ?qra18
            case yra18 => (intro wz hSw; (try dsimp only at hSw); go_simp <;> with_reducible rfl)
            try simp only [Act.put, List.getElem_toArray, List.getElem_cons_zero, List.getElem_cons_succ, List.setIfInBounds_toArray, List.set_cons_zero, List.set_cons_succ]
            refine wpAnyH_take (i := 19) (v := ?_) rfl (by kernel_rfl) (by kernel_rfl) (by kernel_rfl) (fun _ _ _ h => h) (Or.inl ⟨by rfl, ?yra19⟩) (by assumption) ?qra19
            case yra19 => (intro wz hSw; (try dsimp only at hSw); go_simp <;> with_reducible rfl)
            try simp only [Act.put, List.getElem_toArray, List.getElem_cons_zero, List.getElem_cons_succ, List.setIfInBounds_toArray, List.set_cons_zero, List.set_cons_succ]
            refine wpAnyH_take (i := 20) (v := ?_) rfl (by kernel_rfl) (by kernel_rfl) (by kernel_rfl) (fun _ _ _ h => h) (Or.inl ⟨by rfl, ?yra20⟩) (by assumption) ?qra20
            case yra20 => (intro wz hSw; (try dsimp only at hSw); go_simp <;> with_reducible rfl)
            try simp only [Act.put, List.getElem_toArray, List.getElem_cons_zero, List.getElem_cons_succ, List.setIfInBounds_toArray, List.set_cons_zero, List.set_cons_succ]
            refine wpAnyH_take (i := 21) (v := ?_) rfl (by kernel_rfl) (by kernel_rfl) (by kernel_rfl) (fun _ _ _ h => h) (Or.inl ⟨by rfl, ?yra21⟩) (by assumption) ?qra21
            case yra21 => (intro wz hSw; (try dsimp only at hSw); go_simp <;> with_reducible rfl)
            try simp only [Act.put, List.getElem_toArray, List.getElem_cons_zero, List.getElem_cons_succ, List.setIfInBounds_toArray, List.set_cons_zero, List.set_cons_succ]
            refine wpAnyH_take (i := 22) (v := ?_) rfl (by kernel_rfl) (by kernel_rfl) (by kernel_rfl) (fun _ _ _ h => h) (Or.inl ⟨by rfl, ?yra22⟩) (by assumption) ?qra22
            case yra22 => (intro wz hSw; (try dsimp only at hSw); go_simp <;> with_reducible rfl)
            try simp only [Act.put, List.getElem_toArray, List.getElem_cons_zero, List.getElem_cons_succ, List.setIfInBounds_toArray, List.set_cons_zero, List.set_cons_succ]
            refine wpAnyH_take (i := 23) (v := ?_) rfl (by kernel_rfl) (by kernel_rfl) (by kernel_rfl) (fun _ _ _ h => h) (Or.inl ⟨by rfl, ?yra23⟩) (by assumption) ?qra23
            case yra23 => (intro wz hSw; (try dsimp only at hSw); go_simp <;> with_reducible rfl)
            try simp only [Act.put, List.getElem_toArray, List.getElem_cons_zero, List.getElem_cons_succ, List.setIfInBounds_toArray, List.set_cons_zero, List.set_cons_succ]
            refine wpAnyH_take (i := 24) (v := ?_) rfl (by kernel_rfl) (by kernel_rfl) (by kernel_rfl) (fun _ _ _ h => h) (Or.inl ⟨by rfl, ?yra24⟩) (by assumption) ?qra24
            case yra24 => (intro wz hSw; (try dsimp only at hSw); go_simp <;> with_reducible rfl)
            try simp only [Act.put, List.getElem_toArray, List.getElem_cons_zero, List.getElem_cons_succ, List.setIfInBounds_toArray, List.set_cons_zero, List.set_cons_succ]
            refine wpAnyH_take (i := 25) (v := ?_) rfl (by kernel_rfl) (by kernel_rfl) (by kernel_rfl) (fun _ _ _ h => h) (Or.inl ⟨by rfl, ?yra25⟩) (by assumption) ?qra25
            case yra25 => (intro wz hSw; (try dsimp only at hSw); go_simp <;> with_reducible rfl)
            try simp only [Act.put, List.getElem_toArray, List.getElem_cons_zero, List.getElem_cons_succ, List.setIfInBounds_toArray, List.set_cons_zero, List.set_cons_succ]
            refine wpAnyH_take (i := 26) (v := ?_) rfl (by kernel_rfl) (by kernel_rfl) (by kernel_rfl) (fun _ _ _ h => h) (Or.inl ⟨by rfl, ?yra26⟩) (by assumption) ?qra26
            case yra26 => (intro wz hSw; (try dsimp only at hSw); go_simp <;> with_reducible rfl)
            try simp only [Act.put, List.getElem_toArray, List.getElem_cons_zero, List.getElem_cons_succ, List.setIfInBounds_toArray, List.set_cons_zero, List.set_cons_succ]
            refine wpAnyH_take (i := 27) (v := ?_) rfl (by kernel_rfl) (by kernel_rfl) (by kernel_rfl) (fun _ _ _ h => h) (Or.inl ⟨by rfl, ?yra27⟩) (by assumption) ?qra27
            case yra27 => (intro wz hSw; (try dsimp only at hSw); go_simp <;> with_reducible rfl)
            try simp only [Act.put, List.getElem_toArray, List.getElem_cons_zero, List.getElem_cons_succ, List.setIfInBounds_toArray, List.set_cons_zero, List.set_cons_succ]
            refine wpAnyH_take (i := 28) (v := ?_) rfl (by kernel_rfl) (by kernel_rfl) (by kernel_rfl) (fun _ _ _ h => h) (Or.inl ⟨by rfl, ?yra28⟩) (by assumption) ?qra28
            case yra28 => (intro wz hSw; (try dsimp only at hSw); go_simp <;> with_reducible rfl)
            try simp only [Act.put, List.getElem_toArray, List.getElem_cons_zero, List.getElem_cons_succ, List.setIfInBounds_toArray, List.set_cons_zero, List.set_cons_succ]
            refine wpAnyH_take (i := 29) (v := ?_) rfl (by kernel_rfl) (by kernel_rfl) (by kernel_rfl) (fun _ _ _ h => h) (Or.inl ⟨by rfl, ?yra29⟩) (by assumption) ?qra29
            case yra29 => (intro wz hSw; (try dsimp only at hSw); go_simp <;> with_reducible rfl)
            try simp only [Act.put, List.getElem_toArray, List.getElem_cons_zero, List.getElem_cons_succ, List.setIfInBounds_toArray, List.set_cons_zero, List.set_cons_succ]
            refine wpAnyH_take (i := 30) (v := ?_) rfl (by kernel_rfl) (by kernel_rfl) (by kernel_rfl) (fun _ _ _ h => h) (Or.inl ⟨by rfl, ?yra30⟩) (by assumption) ?qra30
            case yra30 => (intro wz hSw; (try dsimp only at hSw); go_simp <;> with_reducible rfl)
            try simp only [Act.put, List.getElem_toArray, List.getElem_cons_zero, List.getElem_cons_succ, List.setIfInBounds_toArray, List.set_cons_zero, List.set_cons_succ]
            refine wpAnyH_done (by kernel_rfl) ?_ _
            clear hHeld0 heq
            go_wp2_with fail
            obtain ⟨kl, kz⟩ := HKL.out
            go_roundw
            case rel => exact ⟨k + 1, by go_num, by omega, HFIN⟩
            case measure => simp [intOf]; omega
          · have HF := Lib.hid (HF0.out wB HW.out)
            have hke : k = ln := by omega
            subst hke
            clear HF0 HW HLC HMC HNB hlt hk
            go_wp2_with fail
            exact HF.out
end Go.Proofs.Ytmgkpabagpgilaa.Dg
