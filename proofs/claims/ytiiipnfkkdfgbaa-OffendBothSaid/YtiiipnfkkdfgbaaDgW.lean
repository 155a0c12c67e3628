/-
  OffendBoth: the walk. Not a statement of the seat.
-/
import Derived.Test.YtiiipnfkkdfgbaaHead20
import Derived.Test.YtiiipnfkkdfgbaaHead12
import Derived.Test.YtiiipnfkkdfgbaaOfLives
import Derived.Test.YtiiipnfkkdfgbaaHead11
namespace Go.Proofs.Ytiiipnfkkdfgbaa.Dg
open Go.ChangeShapes Go.WideShapes Go.ChangeAt Go.RowKit Base F Tx Hi Off
theorem light_sm {h : Hist} (ht : ∀ t ∈ h.txs, Txn.ok t) (ho : ∀ o ∈ h.ords, Ordr.ok o) (hl : lightB h = true) : HistSm h := by
  obtain ⟨h1, h2, h3, h4⟩ := (lightB_iff h).1 hl
  exact ⟨ht, ho, by omega, fun t hm => by have := h3 t hm; omega, fun o hm => by have := h4 o hm; omega⟩
theorem find_there {v u : Value} {h : Hist} {id : Int} {w : World} {x : Txn} (hh : HistV w v u h) (hs : HistSm h) (hf : findT h.txs id = some x) : Calls Try.prog 10 #[.agg #[v, u], .int .i64 id] w fun e w' => ∃ sp sc, e = .returned (.tuple #[.agg #[.int .i64 x.id, .bool x.dn, .slice sp x.ops.length sc], .bool true]) ∧ OpsV w' (.slice sp x.ops.length sc) x.ops ∧ Aft w w' :=
  (find_any id w hh (fun t ht => by have := hs.ops t ht; omega)).mono fun e w' h => by
    obtain ⟨ha, h⟩ := h
    rw [hf] at h
    obtain ⟨sp, sc, he, ho⟩ := h
    exact ⟨sp, sc, he, ho, ha⟩
/-- What is told of a read that some other one's version is read by. -/
structure BothF (h : Hist) (t : Txn) (o : Opr) (u : Txn) (q2 q3 : Bool) : Prop where
  fnd : findT h.txs o.t = some u
  non : (!q2 && !q3) = (u.dn && decide (o.n = ((wrN u.ops o.k : Nat) : Int)))
  edg : u.dn = true → o.n = ((wrN u.ops o.k : Nat) : Int) → 1 ≤ cntE h (fun z => z == o.k) ⟨o.t, t.id, 2, o.k⟩
  len : u.ops.length ≤ 100
theorem both_f {h : Hist} (hs : HistSm h) (hr : rightH h = true) {t : Txn} (ht : t ∈ h.txs) {i : Nat} (hi : i < t.ops.length) (hd : t.dn = true) (hrd : (t.ops.getD i Opr.zero).rd = true) (h0 : (t.ops.getD i Opr.zero).t ≠ 0) (h1 : (t.ops.getD i Opr.zero).t ≠ t.id) :
    ∃ u, BothF h t (t.ops.getD i Opr.zero) u (inB (badsOf h 2) ⟨t.id, (i : Int), (t.ops.getD i Opr.zero).t, (t.ops.getD i Opr.zero).k, (t.ops.getD i Opr.zero).n⟩) (inB (badsOf h 3) ⟨t.id, (i : Int), (t.ops.getD i Opr.zero).t, (t.ops.getD i Opr.zero).k, (t.ops.getD i Opr.zero).n⟩) := by
  obtain ⟨u, hu, hn⟩ := read_there hr ht (getD_memO hi) hrd h0 h1
  refine ⟨u, hu, ?_, fun hud hn2 => installed_edge hr ht (getD_memO hi) hd hrd h0 h1 hu hud hn2 (by simp), hs.ops u (findT_mem hu)⟩
  rw [in_bads hr 2 ht hi hrd, in_bads hr 3 ht hi hrd]
  exact none_installed hd hrd h0 h1 hu hn
set_option maxRecDepth 100000 in
set_option maxHeartbeats 16000000 in
theorem both {v u : Value} {h : Hist} (w : World) (hh : HistV w v u h) (ht : ∀ t ∈ h.txs, Txn.ok t) (ho : ∀ o ∈ h.ords, Ordr.ok o) : Calls Try.prog 5 #[.agg #[v, u]] w (LivesP w) := by
  obtain ⟨p, c, hv, _⟩ := hh.1.form
  obtain ⟨q, d, hu, _⟩ := hh.2.form
  subst hv hu
  have HSM := Lib.hid (fun e : lightB h = true => light_sm ht ho e)
  have HH := Lib.hid hh
  obtain ⟨n1, hn1⟩ : ∃ n, n = h.txs.length := ⟨_, rfl⟩
  obtain ⟨n2, hn2⟩ : ∃ n, n = h.ords.length := ⟨_, rfl⟩
  rw [← hn1, ← hn2] at HH
  rw [← hn1, ← hn2]
  have HN1 := Lib.hid hn1
  clear hh ht ho hn1 hn2
  obtain ⟨X, hX⟩ : ∃ X, X = w.alloc (.cells #[.slice p n1 c, .slice q n2 d] 25) := ⟨_, rfl⟩
  have HA : Hid (Aft w X) := Lib.hid (by rw [hX]; exact Aft.one _)
  have HC : Hid (∀ Z, Aft X Z → (Z.cell? ⟨w.heap.size, 0, none⟩ = some (.slice p n1 c) ∧ Z.cell? ⟨w.heap.size, 1, none⟩ = some (.slice q n2 d)) ∧ w.heap.size < Z.heap.size) := Lib.hid fun Z hZ => by
    have e : X.heap[w.heap.size]? = some (.cells #[.slice p n1 c, .slice q n2 d] 25) := by rw [hX]; exact heap_alloc_at _ _ _ rfl
    have k := (hZ.block _ (heap_lt e)).trans e
    exact ⟨by simp [World.cell?, k], heap_lt k⟩
  have HV : Hid (∀ W, Aft X W → HistV W (.slice p n1 c) (.slice q n2 d) h) := Lib.hid fun W hW => HH.out.below (HA.out.trans hW)
  have HL : Hid (∀ W, Aft X W → Calls Try.prog 7 #[.agg #[.slice p n1 c, .slice q n2 d]] W (BoolNew (lightB h) W)) := Lib.hid fun W hW => rlight_any W (HV.out W hW)
  have HR : Hid (lightB h = true → ∀ W, Aft X W → Calls Try.prog 8 #[.agg #[.slice p n1 c, .slice q n2 d]] W (BoolNew (rightH h) W)) := Lib.hid fun e W hW => Hi.right_any W (HV.out W hW) (sm_ok (HSM.out e))
  have HE : Hid (∀ W, Aft X W → LivesP w (.returned (.bool true)) W) := Lib.hid fun W hW => ⟨rfl, HA.out.trans hW⟩
  generalize LivesP w = Post at HE ⊢
  have HBF : Hid (HistSm h → rightH h = true → ∀ (t : Txn), t ∈ h.txs → ∀ i, i < t.ops.length → t.dn = true → (t.ops.getD i Opr.zero).rd = true → (t.ops.getD i Opr.zero).t ≠ 0 → (t.ops.getD i Opr.zero).t ≠ t.id → ∃ u, BothF h t (t.ops.getD i Opr.zero) u (inB (badsOf h 2) ⟨t.id, (i : Int), (t.ops.getD i Opr.zero).t, (t.ops.getD i Opr.zero).k, (t.ops.getD i Opr.zero).n⟩) (inB (badsOf h 3) ⟨t.id, (i : Int), (t.ops.getD i Opr.zero).t, (t.ops.getD i Opr.zero).k, (t.ops.getD i Opr.zero).n⟩)) := Lib.hid fun hs hr t ht i hi => both_f hs hr ht hi
  have HSO : Hid (rightH h = true → ∀ i, 0 < i → i < (badsOf h 2).length → lessB ((badsOf h 2).getD (i - 1) Bad.zero) ((badsOf h 2).getD i Bad.zero) = true) := Lib.hid fun hr i h0 hi => bads_sorted hr 2 h0 hi
  generalize lightB h = lb at HSM HL HR
  generalize rightH h = rr at HR HBF HSO
  go_enter Try.func5, Try.ntmps5
  go_upto_region 1 with fail
  rw [← hX]
  clear hX HH
  go_wp2_with fail
  refine (lives X).mono ?_
  rintro e w1 ⟨rfl, ha⟩
  have HA1 := Lib.hid ha
  obtain ⟨⟨c0, c1⟩, hbl⟩ := HC.out w1 ha
  clear ha
  cases lb with
  | false =>
    clear HSM HR HBF HSO
    go_wp2_with fail
    refine (HL.out w1 HA1.out).mono ?_
    rintro e w2 ⟨rfl, ha⟩
    have HF := Lib.hid (HE.out w2 (HA1.out.trans ha))
    clear ha HL HC HV HE c0 c1 hbl HA1
    go_wp2_with fail
    exact HF.out
  | true =>
    have HS := Lib.hid (HSM.out rfl)
    have HR2 := Lib.hid (HR.out rfl)
    clear HSM HR
    go_wp2_with fail
    refine (HL.out w1 HA1.out).mono ?_
    rintro e w2 ⟨rfl, ha⟩
    have HA2 := Lib.hid (HA1.out.trans ha)
    clear ha HL c0 c1 hbl HA1
    obtain ⟨⟨c0, c1⟩, hbl⟩ := HC.out w2 HA2.out
    go_wp2_with fail
    refine (HR2.out w2 HA2.out).mono ?_
    rintro e w3 ⟨rfl, ha⟩
    have HA3 := Lib.hid (HA2.out.trans ha)
    clear ha HR2 c0 c1 hbl HA2
    cases rr with
    | false =>
      have HF := Lib.hid (HE.out w3 HA3.out)
      clear HE HBF HSO HC HV HA3
      go_wp2_with fail
      exact HF.out
    | true =>
      have HBF2 := Lib.hid (HBF.out HS.out rfl)
      have HSO2 := Lib.hid (HSO.out rfl)
      have HOf : Hid (∀ W ph, Aft X W → Calls Try.prog 17 #[.agg #[.slice p n1 c, .slice q n2 d], .int .i64 ph] W (BadsP (badsOf h ph) W)) := Lib.hid fun W ph hW => Of_any W (HV.out W hW) HS.out ph
      clear HBF HSO
      obtain ⟨l2, hl2⟩ : ∃ l, l = badsOf h 2 := ⟨_, rfl⟩
      obtain ⟨l3, hl3⟩ : ∃ l, l = badsOf h 3 := ⟨_, rfl⟩
      have HO2 : Hid (∀ W, Aft X W → Calls Try.prog 17 #[.agg #[.slice p n1 c, .slice q n2 d], .int .i64 2] W (BadsP l2 W)) := Lib.hid fun W hW => by rw [hl2]; exact HOf.out W 2 hW
      have HO3 : Hid (∀ W, Aft X W → Calls Try.prog 17 #[.agg #[.slice p n1 c, .slice q n2 d], .int .i64 3] W (BadsP l3 W)) := Lib.hid fun W hW => by rw [hl3]; exact HOf.out W 3 hW
      rw [← hl2] at HSO2
      rw [← hl2, ← hl3] at HBF2
      clear hl2 hl3 HOf
      obtain ⟨⟨c0, c1⟩, hbl⟩ := HC.out w3 HA3.out
      go_upto_region 5 with fail
      obtain ⟨W0, hW0⟩ : ∃ W, W = w3.drew := ⟨_, rfl⟩
      have HA0 : Hid (Aft X W0) := Lib.hid (by rw [hW0]; exact HA3.out.drew 1)
      refine wp_region_held_drew (S := fun Z => Z.cell? ⟨w.heap.size, 0, none⟩ = some (.slice p n1 c) ∧ Z.cell? ⟨w.heap.size, 1, none⟩ = some (.slice q n2 d)) (by kernel_rfl) (hW0 ▸ (HC.out _ HA0.out).1) (fun hHeld0 => ?_)
      rw [← hW0] at hHeld0 ⊢
      clear hW0 HA3 c0 c1 hbl
      refine wpAnyH_take (i := 0) (v := ?_) rfl (by kernel_rfl) (by kernel_rfl) (by kernel_rfl) (fun _ _ _ h => h) (Or.inl ⟨by rfl, ?ya0⟩) (by assumption) ?qa0
      case ya0 => (intro wz hSw; (try dsimp only at hSw); go_simp <;> with_reducible rfl)
      try simp only [Act.put, List.getElem_toArray, List.getElem_cons_zero, List.setIfInBounds_toArray, List.set_cons_zero, List.set_cons_succ]
      refine wpAnyH_take (i := 2) (v := ?_) rfl (by kernel_rfl) (by kernel_rfl) (by kernel_rfl) (fun _ _ _ h => h) (Or.inl ⟨by rfl, ?ya2⟩) (by assumption) ?qa2
      case ya2 => (intro wz hSw; (try dsimp only at hSw); go_simp <;> with_reducible rfl)
      try simp only [Act.put, List.getElem_toArray, List.getElem_cons_zero, List.getElem_cons_succ, List.setIfInBounds_toArray, List.set_cons_zero, List.set_cons_succ]
      refine wpAnyH_ready (rs := [1]) (by kernel_rfl) (by simp) ?_
      refine AllReadyH.cons rfl (fun K hK => ?_) AllReadyH.nil
      go_simp
      refine (HO2.out W0 HA0.out).mono ?_
      rintro e w4 ⟨v2, rfl, hx, ⟨p2, ca2, rfl⟩, ha⟩
      have HA4 : Hid (Aft X w4) := Lib.hid (HA0.out.trans ha)
      have HB2 := Lib.hid hx
      clear ha hx HO2
      refine hK.out _ _ (HC.out _ HA4.out).1 (fun hHeld1 => ?_)
      clear hK K
      try simp only [Act.put, List.getElem_toArray, List.getElem_cons_zero, List.getElem_cons_succ, List.setIfInBounds_toArray, List.set_cons_zero, List.set_cons_succ]
      refine wpAnyH_ready (rs := [3]) (by kernel_rfl) (by simp) ?_
      refine AllReadyH.cons rfl (fun K hK => ?_) AllReadyH.nil
      go_simp
      refine (HO3.out w4 HA4.out).mono ?_
      rintro e wB ⟨v3, rfl, hx, ⟨p3, ca3, rfl⟩, ha⟩
      have HAB : Hid (Aft X wB) := Lib.hid (HA4.out.trans ha)
      have HL2 : Hid (∀ W, Aft wB W → Bads 0 W (.slice p2 l2.length ca2) l2) := Lib.hid fun W hW => HB2.out.below (ha.trans hW)
      have HL3 : Hid (∀ W, Aft wB W → Bads 0 W (.slice p3 l3.length ca3) l3) := Lib.hid fun W hW => hx.below hW
      clear ha hx HO3 HB2 HA4
      refine hK.out _ _ (HC.out _ HAB.out).1 (fun hHeld2 => ?_)
      clear hK K
      try simp only [Act.put, List.getElem_toArray, List.getElem_cons_zero, List.getElem_cons_succ, List.setIfInBounds_toArray, List.set_cons_zero, List.set_cons_succ]
      refine wpAnyH_take (i := 4) (v := ?_) rfl (by kernel_rfl) (by kernel_rfl) (by kernel_rfl) (fun _ _ _ h => h) (Or.inl ⟨by rfl, ?ya4⟩) (by assumption) ?qa4
      case ya4 => (intro wz hSw; (try dsimp only at hSw); go_simp <;> with_reducible rfl)
      try simp only [Act.put, List.getElem_toArray, List.getElem_cons_zero, List.getElem_cons_succ, List.setIfInBounds_toArray, List.set_cons_zero, List.set_cons_succ]
      refine wpAnyH_take (i := 5) (v := ?_) rfl (by kernel_rfl) (by kernel_rfl) (by kernel_rfl) (fun _ _ _ h => h) (Or.inl ⟨by rfl, ?ya5⟩) (by assumption) ?qa5
      case ya5 => (intro wz hSw; (try dsimp only at hSw); go_simp <;> with_reducible rfl)
      try simp only [Act.put, List.getElem_toArray, List.getElem_cons_zero, List.getElem_cons_succ, List.setIfInBounds_toArray, List.set_cons_zero, List.set_cons_succ]
      refine wpAnyH_done (by kernel_rfl) ?_ _
      clear hHeld0 hHeld1 hHeld2 HA0
      have HLE2 : Hid (l2.length ≤ 9223372036854775807) := Lib.hid (by obtain ⟨_, _, _, h, _⟩ := (HL2.out wB (Aft.refl _)).open_; exact h)
      obtain ⟨m2, hm2⟩ : ∃ n, n = l2.length := ⟨_, rfl⟩
      obtain ⟨m3, hm3⟩ : ∃ n, n = l3.length := ⟨_, rfl⟩
      have HM2 := Lib.hid hm2
      rw [← hm2] at HL2 HLE2 HSO2 ⊢
      rw [← hm3] at HL3 ⊢
      clear hm2 hm3
      go_wp2_with fail
      go_loopw [5] (fun s5 wr => ∃ j : Nat, s5 = .int .i64 (j : Int) ∧ 1 ≤ j ∧ (j = 1 ∨ j ≤ m2) ∧ Hid (Aft wB wr)) (fun s5 _ => m2 - (intOf s5).toNat)
      case atStart => exact ⟨1, rfl, Nat.le_refl _, .inl rfl, Lib.hid (Aft.refl _)⟩
      case round =>
        obtain ⟨j, rfl, hj1, hj2, HS5⟩ := hrel
        have hml := HLE2.out
        by_cases hlt : j < m2
        · have hjI : (j : Int) < (m2 : Int) := by omega
          obtain ⟨i, hi⟩ : ∃ i, i = j - 1 := ⟨_, rfl⟩
          have hw : IntKind.i64.wrap ((j : Int) - 1) = (i : Int) := by rw [IntKind.wrap_i64] <;> omega
          have HLS := Lib.hid (HSO2.out j (by omega) hlt)
          rw [← hi] at HLS
          have him : i < m2 := by omega
          have hiI : (i : Int) < (m2 : Int) := by omega
          obtain ⟨XD, hXD⟩ : ∃ W, W = wr.drew := ⟨_, rfl⟩
          have HXD : Hid (Aft wB XD) := Lib.hid (by rw [hXD]; exact HS5.out.drew 1)
          obtain ⟨p', c', e, _, hc⟩ := (HL2.out XD HXD.out).open_
          injection e with e1 e2 e3
          subst e1 e3
          clear e2
          obtain ⟨g2, o2, rfl, _, hg2, d0, d1, d2, d3, d4⟩ := hc i (by rw [← HM2.out]; exact him)
          obtain ⟨g3, o3, e4, _, _, f0, f1, f2, f3, f4⟩ := hc j (by rw [← HM2.out]; exact hlt)
          injection e4 with e4
          injection e4 with e5 e6
          subst e5 e6
          clear hc
          generalize l2.getD i Bad.zero = x at d0 d1 d2 d3 d4 HLS
          generalize l2.getD j Bad.zero = y at f0 f1 f2 f3 f4 HLS
          have HCE : Hid (∀ Z, Aft XD Z → (Z.cell? ⟨g2, o2 + i * 5, none⟩ = some (.int .i64 x.tx) ∧ Z.cell? ⟨g2, o2 + i * 5 + 1, none⟩ = some (.int .i64 x.pl) ∧ Z.cell? ⟨g2, o2 + i * 5 + 2, none⟩ = some (.int .i64 x.t) ∧ Z.cell? ⟨g2, o2 + i * 5 + 3, none⟩ = some (.int .i64 x.k) ∧ Z.cell? ⟨g2, o2 + i * 5 + 4, none⟩ = some (.int .i64 x.n)) ∧ Z.cell? ⟨g2, o2 + j * 5, none⟩ = some (.int .i64 y.tx) ∧ Z.cell? ⟨g2, o2 + j * 5 + 1, none⟩ = some (.int .i64 y.pl) ∧ Z.cell? ⟨g2, o2 + j * 5 + 2, none⟩ = some (.int .i64 y.t) ∧ Z.cell? ⟨g2, o2 + j * 5 + 3, none⟩ = some (.int .i64 y.k) ∧ Z.cell? ⟨g2, o2 + j * 5 + 4, none⟩ = some (.int .i64 y.n)) := Lib.hid fun Z hZ => ⟨⟨hZ.cell hg2 d0, hZ.cell hg2 d1, hZ.cell hg2 d2, hZ.cell hg2 d3, hZ.cell hg2 d4⟩, hZ.cell hg2 f0, hZ.cell hg2 f1, hZ.cell hg2 f2, hZ.cell hg2 f3, hZ.cell hg2 f4⟩
          have HLC := Lib.hid (Less_any x y XD)
          rw [HLS.out] at HLC
          unfold badV at HLC
          clear d0 d1 d2 d3 d4 f0 f1 f2 f3 f4 HLS hi hg2
          go_upto_region 9 with fail
          refine wp_region_held_drew (S := fun Z => (Z.cell? ⟨g2, o2 + i * 5, none⟩ = some (.int .i64 x.tx) ∧ Z.cell? ⟨g2, o2 + i * 5 + 1, none⟩ = some (.int .i64 x.pl) ∧ Z.cell? ⟨g2, o2 + i * 5 + 2, none⟩ = some (.int .i64 x.t) ∧ Z.cell? ⟨g2, o2 + i * 5 + 3, none⟩ = some (.int .i64 x.k) ∧ Z.cell? ⟨g2, o2 + i * 5 + 4, none⟩ = some (.int .i64 x.n)) ∧ Z.cell? ⟨g2, o2 + j * 5, none⟩ = some (.int .i64 y.tx) ∧ Z.cell? ⟨g2, o2 + j * 5 + 1, none⟩ = some (.int .i64 y.pl) ∧ Z.cell? ⟨g2, o2 + j * 5 + 2, none⟩ = some (.int .i64 y.t) ∧ Z.cell? ⟨g2, o2 + j * 5 + 3, none⟩ = some (.int .i64 y.k) ∧ Z.cell? ⟨g2, o2 + j * 5 + 4, none⟩ = some (.int .i64 y.n)) (by kernel_rfl) (hXD ▸ HCE.out _ (Aft.refl _)) (fun hHeld0 => ?_)
          rw [← hXD] at hHeld0 ⊢
          clear hXD
          refine wpAnyH_take (i := 0) (v := ?_) rfl (by kernel_rfl) (by kernel_rfl) (by kernel_rfl) (fun _ _ _ h => h) (Or.inl ⟨by rfl, ?yb0⟩) (by assumption) ?qb0
          case yb0 => (intro wz hSw; (try dsimp only at hSw); go_simp <;> with_reducible rfl)
          try simp only [Act.put, List.getElem_toArray, List.getElem_cons_zero, List.setIfInBounds_toArray, List.set_cons_zero, List.set_cons_succ]
          refine wpAnyH_take (i := 1) (v := ?_) rfl (by kernel_rfl) (by kernel_rfl) (by kernel_rfl) (fun _ _ _ h => h) (Or.inl ⟨by rfl, ?yb1⟩) (by assumption) ?qb1
          case yb1 => (intro wz hSw; (try dsimp only at hSw); go_simp <;> with_reducible rfl)
          try simp only [Act.put, List.getElem_toArray, List.getElem_cons_zero, List.getElem_cons_succ, List.setIfInBounds_toArray, List.set_cons_zero, List.set_cons_succ]
          refine wpAnyH_take (i := 2) (v := ?_) rfl (by kernel_rfl) (by kernel_rfl) (by kernel_rfl) (fun _ _ _ h => h) (Or.inl ⟨by rfl, ?yb2⟩) (by assumption) ?qb2
          case yb2 => (intro wz hSw; (try dsimp only at hSw); go_simp <;> with_reducible rfl)
          try simp only [Act.put, List.getElem_toArray, List.getElem_cons_zero, List.getElem_cons_succ, List.setIfInBounds_toArray, List.set_cons_zero, List.set_cons_succ]
          refine wpAnyH_take (i := 3) (v := ?_) rfl (by kernel_rfl) (by kernel_rfl) (by kernel_rfl) (fun _ _ _ h => h) (Or.inl ⟨by rfl, ?yb3⟩) (by assumption) ?qb3
          case yb3 => (intro wz hSw; (try dsimp only at hSw); go_simp <;> with_reducible rfl)
          try simp only [Act.put, List.getElem_toArray, List.getElem_cons_zero, List.getElem_cons_succ, List.setIfInBounds_toArray, List.set_cons_zero, List.set_cons_succ]
          refine wpAnyH_take (i := 4) (v := ?_) rfl (by kernel_rfl) (by kernel_rfl) (by kernel_rfl) (fun _ _ _ h => h) (Or.inl ⟨by rfl, ?yb4⟩) (by assumption) ?qb4
          case yb4 => (intro wz hSw; (try dsimp only at hSw); go_simp <;> with_reducible rfl)
          try simp only [Act.put, List.getElem_toArray, List.getElem_cons_zero, List.getElem_cons_succ, List.setIfInBounds_toArray, List.set_cons_zero, List.set_cons_succ]
          refine wpAnyH_take (i := 5) (v := ?_) rfl (by kernel_rfl) (by kernel_rfl) (by kernel_rfl) (fun _ _ _ h => h) (Or.inl ⟨by rfl, ?yb5⟩) (by assumption) ?qb5
          case yb5 => (intro wz hSw; (try dsimp only at hSw); go_simp <;> with_reducible rfl)
          try simp only [Act.put, List.getElem_toArray, List.getElem_cons_zero, List.getElem_cons_succ, List.setIfInBounds_toArray, List.set_cons_zero, List.set_cons_succ]
          refine wpAnyH_take (i := 6) (v := ?_) rfl (by kernel_rfl) (by kernel_rfl) (by kernel_rfl) (fun _ _ _ h => h) (Or.inl ⟨by rfl, ?yb6⟩) (by assumption) ?qb6
          case yb6 => (intro wz hSw; (try dsimp only at hSw); go_simp <;> with_reducible rfl)
          try simp only [Act.put, List.getElem_toArray, List.getElem_cons_zero, List.getElem_cons_succ, List.setIfInBounds_toArray, List.set_cons_zero, List.set_cons_succ]
          refine wpAnyH_take (i := 7) (v := ?_) rfl (by kernel_rfl) (by kernel_rfl) (by kernel_rfl) (fun _ _ _ h => h) (Or.inl ⟨by rfl, ?yb7⟩) (by assumption) ?qb7
          case yb7 => (intro wz hSw; (try dsimp only at hSw); go_simp <;> with_reducible rfl)
          try simp only [Act.put, List.getElem_toArray, List.getElem_cons_zero, List.getElem_cons_succ, List.setIfInBounds_toArray, List.set_cons_zero, List.set_cons_succ]
          refine wpAnyH_take (i := 8) (v := ?_) rfl (by kernel_rfl) (by kernel_rfl) (by kernel_rfl) (fun _ _ _ h => h) (Or.inl ⟨by rfl, ?yb8⟩) (by assumption) ?qb8
          case yb8 => (intro wz hSw; (try dsimp only at hSw); go_simp <;> with_reducible rfl)
          try simp only [Act.put, List.getElem_toArray, List.getElem_cons_zero, List.getElem_cons_succ, List.setIfInBounds_toArray, List.set_cons_zero, List.set_cons_succ]
          refine wpAnyH_ready (rs := [9]) (by kernel_rfl) (by simp) ?_
          refine AllReadyH.cons rfl (fun K hK => ?_) AllReadyH.nil
          go_simp
          refine HLC.out.mono ?_
          rintro e w5 ⟨rfl, ha⟩
          have HA5 : Hid (Aft wB w5) := Lib.hid (HXD.out.trans ha)
          refine hK.out _ _ (HCE.out _ ha) (fun hHeld1 => ?_)
          clear hK K ha
          try simp only [Act.put, List.getElem_toArray, List.getElem_cons_zero, List.getElem_cons_succ, List.setIfInBounds_toArray, List.set_cons_zero, List.set_cons_succ]
          refine wpAnyH_take (i := 10) (v := ?_) rfl (by kernel_rfl) (by kernel_rfl) (by kernel_rfl) (fun _ _ _ h => h) (Or.inl ⟨by rfl, ?yb10⟩) (by assumption) ?qb10
          case yb10 => (intro wz hSw; (try dsimp only at hSw); go_simp <;> with_reducible rfl)
          try simp only [Act.put, List.getElem_toArray, List.getElem_cons_zero, List.getElem_cons_succ, List.setIfInBounds_toArray, List.set_cons_zero, List.set_cons_succ]
          refine wpAnyH_done (by kernel_rfl) ?_ _
          clear hHeld0 hHeld1 HCE HLC HXD HS5 hw hj2 him hiI
          go_wp2_with fail
          go_roundw
          case rel => exact ⟨j + 1, by go_num, by omega, .inr (by omega), HA5⟩
          case measure => simp [intOf]; omega
        · have hjI : ¬ (j : Int) < (m2 : Int) := by omega
          have HAW : Hid (Aft X wr) := Lib.hid (HAB.out.trans HS5.out)
          have HTX := Lib.hid (HV.out wr HAW.out).1
          obtain ⟨⟨c0, c1⟩, hbl⟩ := HC.out wr HAW.out
          obtain ⟨wC, hwC⟩ : ∃ W, W = wr := ⟨_, rfl⟩
          subst hwC
          have HI0 : Hid (Aft wC wC) := Lib.hid (Aft.refl _)
          clear hj1 hj2 hlt HSO2
          go_wp2_with fail
          clear c0 c1 hbl hjI
          go_loopw [49] (fun s49 wr => ∃ k : Nat, s49 = .int .i64 (k : Int) ∧ k ≤ n1 ∧ Hid (Aft wC wr)) (fun s49 _ => n1 - (intOf s49).toNat)
          case atStart => exact ⟨0, rfl, Nat.zero_le _, HI0⟩
          case round =>
            clear HI0
            obtain ⟨k, rfl, hk, HS6⟩ := hrel
            obtain ⟨wA, hwA⟩ : ∃ W, W = wr := ⟨_, rfl⟩
            subst hwA
            by_cases hlt : k < n1
            · have hltx : k < h.txs.length := by rw [← HN1.out]; exact hlt
              obtain ⟨g, o, sp, sc, rfl, hg, c0, c1, c2, hs⟩ := (show Txs wC (.slice _ h.txs.length c) h.txs from by have := HTX.out; rw [HN1.out] at this; exact this).at_ hltx
              have c0 := HS6.out.cell hg c0
              have c1 := HS6.out.cell hg c1
              have c2 := HS6.out.cell hg c2
              have hg := Nat.lt_of_lt_of_le hg HS6.out.size
              have HOKK := Lib.hid (HS.out.txs _ (getD_mem hltx))
              have HLN := Lib.hid (HS.out.ops _ (getD_mem hltx))
              have HBK := Lib.hid (HBF2.out _ (getD_mem hltx))
              have hkI : (k : Int) < (n1 : Int) := by omega
              generalize h.txs.getD k Txn.zero = t at c0 c1 c2 hs HOKK HBK HLN
              obtain ⟨ti, td, tl⟩ := t
              simp only at c0 c1 c2 hs HBK HLN
              have HOP : Hid (∀ Z, Aft wC Z → Oprs 0 Z (.slice sp tl.length sc) tl) := Lib.hid fun Z hZ => (hs.below hZ).2
              have HTI : Hid (i64 ti) := Lib.hid HOKK.out.1
              have HOKO : Hid (∀ x ∈ tl, Opr.ok x) := Lib.hid HOKK.out.2
              have hln : tl.length ≤ 100 := HLN.out
              clear hs HOKK HLN
              obtain ⟨bx, hbx⟩ : ∃ b, b = boxT ti td (.slice sp tl.length sc) := ⟨_, rfl⟩
              have HBC : Hid (∀ W : World, W.heap[wA.heap.size]? = some bx → W.cell? ⟨wA.heap.size, 0, none⟩ = some (.int .i64 ti) ∧ W.cell? ⟨wA.heap.size, 1, none⟩ = some (.bool td) ∧ W.cell? ⟨wA.heap.size, 2, none⟩ = some (.slice sp tl.length sc)) := Lib.hid fun W hW => by
                rw [hbx] at hW
                exact (cellsT hW).2.1
              have HI0 : Hid (∀ W, W = wA.alloc (boxT ti td (.slice sp tl.length sc)) → Aft wC W ∧ W.heap[wA.heap.size]? = some bx) := Lib.hid fun W hW => by
                subst hW
                exact ⟨HS6.out.lay _, by rw [hbx]; exact heap_alloc_at _ _ _ rfl⟩
              clear hbx
              unfold boxT at HI0
              obtain ⟨tn, htn⟩ : ∃ n, n = tl.length := ⟨_, rfl⟩
              rw [← htn] at c2 HBC hln HOP HI0
              have HTN := Lib.hid htn
              clear htn
              go_wp2_with fail
              clear c0 c1 c2
              go_loopw [56] (fun s56 wr => ∃ j : Nat, s56 = .int .i64 (j : Int) ∧ j ≤ tn ∧ Hid (Aft wC wr ∧ wr.heap[wA.heap.size]? = some bx)) (fun s56 _ => tn - (intOf s56).toNat)
              case atStart => exact ⟨0, rfl, Nat.zero_le _, Lib.hid (HI0.out _ rfl)⟩
              case round =>
                clear HI0
                obtain ⟨j, rfl, hj, HS7⟩ := hrel
                by_cases hlt2 : j < tn
                · have hltl : j < tl.length := by rw [← HTN.out]; exact hlt2
                  obtain ⟨p', c', e, _, hc⟩ := (HOP.out _ HS7.out.1).open_
                  injection e with e1 e2 e3
                  subst e1 e3
                  clear e2
                  obtain ⟨g2, o2, rfl, _, hg2, d0, d1, d2, d3⟩ := hc j hltl
                  clear hc
                  have HOJ := Lib.hid (HOKO.out _ (getD_memO hltl))
                  have HBJ := Lib.hid (HBK.out j hltl)
                  have hjI : (j : Int) < (tn : Int) := by omega
                  generalize tl.getD j Opr.zero = x at d0 d1 d2 d3 HOJ HBJ
                  obtain ⟨xr, xk, xt, xn⟩ := x
                  dsimp only at d0 d1 d2 d3 HBJ
                  have hwr := heap_lt HS7.out.2
                  obtain ⟨X9, hX9⟩ : ∃ W, W = wr.alloc (boxO ⟨xr, xk, xt, xn⟩) := ⟨_, rfl⟩
                  have H9 : Hid (Aft wC X9 ∧ X9.heap[wA.heap.size]? = some bx ∧ X9.heap[wr.heap.size]? = some (boxO ⟨xr, xk, xt, xn⟩) ∧ wr.heap.size < X9.heap.size) := Lib.hid (by rw [hX9]; exact ⟨HS7.out.1.lay _, heap_alloc_lt _ _ _ _ HS7.out.2, heap_alloc_at _ _ _ rfl, by simp⟩)
                  have HCZ : Hid (∀ Z, Aft X9 Z → (Z.cell? ⟨wA.heap.size, 0, none⟩ = some (.int .i64 ti) ∧ Z.cell? ⟨wA.heap.size, 1, none⟩ = some (.bool td)) ∧ (Z.cell? ⟨wr.heap.size, 0, none⟩ = some (.bool xr) ∧ Z.cell? ⟨wr.heap.size, 1, none⟩ = some (.int .i64 xk) ∧ Z.cell? ⟨wr.heap.size, 2, none⟩ = some (.int .i64 xt) ∧ Z.cell? ⟨wr.heap.size, 3, none⟩ = some (.int .i64 xn)) ∧ (Z.cell? ⟨w.heap.size, 0, none⟩ = some (.slice (some ⟨g, o, none⟩) n1 c) ∧ Z.cell? ⟨w.heap.size, 1, none⟩ = some (.slice q n2 d))) := Lib.hid fun Z hZ => by
                    have h1 := HBC.out Z ((hZ.block _ (heap_lt H9.out.2.1)).trans H9.out.2.1)
                    have h2 := cellsO ((hZ.block _ (heap_lt H9.out.2.2.1)).trans H9.out.2.2.1)
                    exact ⟨⟨h1.1, h1.2.1⟩, ⟨h2.2.1.1, h2.2.1.2.1, h2.2.1.2.2.1, h2.2.1.2.2.2⟩, (HC.out Z (HAW.out.trans (H9.out.1.trans hZ))).1⟩
                  have HGO : Hid (∀ Z, Aft X9 Z → Aft wC Z ∧ Z.heap[wA.heap.size]? = some bx) := Lib.hid fun Z hZ => ⟨H9.out.1.trans hZ, (hZ.block _ (heap_lt H9.out.2.1)).trans H9.out.2.1⟩
                  obtain ⟨⟨i0, i1⟩, ⟨k0, k1, k2, k3⟩, c0, c1⟩ := HCZ.out X9 (Aft.refl _)
                  have hx9 := H9.out.2.2.2
                  have hx8 := heap_lt H9.out.2.1
                  clear HS7
                  unfold boxO at hX9
                  cases td with
                  | false =>
                    have HR := Lib.hid (HGO.out X9 (Aft.refl _))
                    clear HGO HCZ HBJ H9
                    go_upto_region 17 with fail
                    rw [← hX9]
                    clear hX9
                    go_wp2_with fail
                    go_roundw
                    case rel => exact ⟨j + 1, by go_num, by omega, HR⟩
                    case measure => simp [intOf]; omega
                  | true =>
                    cases xr with
                    | false =>
                      have HR := Lib.hid (HGO.out X9 (Aft.refl _))
                      clear HGO HCZ HBJ H9
                      go_upto_region 17 with fail
                      rw [← hX9]
                      clear hX9
                      go_wp2_with fail
                      go_roundw
                      case rel => exact ⟨j + 1, by go_num, by omega, HR⟩
                      case measure => simp [intOf]; omega
                    | true =>
                      by_cases h0 : xt = 0
                      · have h0b : (xt == 0) = true := by simp [h0]
                        clear h0
                        have HR := Lib.hid (HGO.out X9 (Aft.refl _))
                        clear HGO HCZ HBJ H9
                        go_upto_region 17 with fail
                        rw [← hX9]
                        clear hX9
                        go_wp2_with fail
                        go_roundw
                        case rel => exact ⟨j + 1, by go_num, by omega, HR⟩
                        case measure => simp [intOf]; omega
                      · have h0b : (xt == 0) = false := by simp [h0]
                        by_cases h1 : xt = ti
                        · have h1b : (xt == ti) = true := by simp [h1]
                          clear h1 h0
                          have HR := Lib.hid (HGO.out X9 (Aft.refl _))
                          clear HGO HCZ HBJ H9
                          go_upto_region 17 with fail
                          rw [← hX9]
                          clear hX9
                          go_wp2_with fail
                          go_roundw
                          case rel => exact ⟨j + 1, by go_num, by omega, HR⟩
                          case measure => simp [intOf]; omega
                        · have h1b : (xt == ti) = false := by simp [h1]
                          obtain ⟨⟨uid, ud, ul⟩, hbf⟩ := HBJ.out rfl rfl h0 h1
                          have HFN : Hid (findT h.txs xt = some ⟨uid, ud, ul⟩) := Lib.hid hbf.fnd
                          have hul : ul.length ≤ 100 := hbf.len
                          have HNON := Lib.hid hbf.non
                          have HEDG := Lib.hid hbf.edg
                          obtain ⟨bb, hbb⟩ : ∃ b : Bad, b = ⟨ti, (j : Int), xt, xk, xn⟩ := ⟨_, rfl⟩
                          rw [← hbb] at HNON
                          have HN2 : Hid (∀ W, Aft X9 W → Calls Try.prog 19 #[.slice p2 m2 ca2, .agg #[.int .i64 ti, .int .i64 (j : Int), .int .i64 xt, .int .i64 xk, .int .i64 xn]] W (BoolNew (inB l2 bb) W)) := Lib.hid fun W hW => by rw [hbb]; exact rIn_any ⟨ti, (j : Int), xt, xk, xn⟩ W (HL2.out W (HS5.out.trans (H9.out.1.trans hW)))
                          have HN3 : Hid (∀ W, Aft X9 W → Calls Try.prog 19 #[.slice p3 m3 ca3, .agg #[.int .i64 ti, .int .i64 (j : Int), .int .i64 xt, .int .i64 xk, .int .i64 xn]] W (BoolNew (inB l3 bb) W)) := Lib.hid fun W hW => by rw [hbb]; exact rIn_any ⟨ti, (j : Int), xt, xk, xn⟩ W (HL3.out W (HS5.out.trans (H9.out.1.trans hW)))
                          have HFI : Hid (∀ W, Aft X9 W → Calls Try.prog 10 #[.agg #[.slice (some ⟨g, o, none⟩) n1 c, .slice q n2 d], .int .i64 xt] W fun e w' => ∃ sp sc, e = .returned (.tuple #[.agg #[.int .i64 uid, .bool ud, .slice sp ul.length sc], .bool true]) ∧ OpsV w' (.slice sp ul.length sc) ul ∧ Aft W w') := Lib.hid fun W hW => find_there (HV.out W (HAW.out.trans (H9.out.1.trans hW))) HS.out HFN.out
                          have HCO : Hid (∀ W, Aft X9 W → Calls Try.prog 15 #[.agg #[.slice (some ⟨g, o, none⟩) n1 c, .slice q n2 d], .agg #[.int .i64 xt, .int .i64 ti, .int .i64 2, .int .i64 xk]] W (IntNew ((cntE h (fun z => z == xk) ⟨xt, ti, 2, xk⟩ : Nat) : Int) W)) := Lib.hid fun W hW => Count_any W (HV.out W (HAW.out.trans (H9.out.1.trans hW))) HS.out ⟨xt, ti, 2, xk⟩ ⟨HOJ.out.2.1, HTI.out, by unfold i64; simp, HOJ.out.1⟩
                          have HWT : Hid (∀ W s, Oprs 0 W s ul → Calls Try.prog 20 #[.agg #[.int .i64 uid, .bool ud, s], .int .i64 xk] W (IntNew (wrN ul xk : Nat) W)) := Lib.hid fun W s hs => writes_any uid xk ud W hs (by omega)
                          simp only at HNON HEDG
                          generalize inB l2 bb = q2 at HN2 HNON
                          generalize inB l3 bb = q3 at HN3 HNON
                          generalize cntE h (fun z => z == xk) ⟨xt, ti, 2, xk⟩ = ce at HCO HEDG
                          generalize wrN ul xk = wn at HWT HNON HEDG
                          clear hbf hbb HFN HBJ HOJ h0 h1 hul
                          obtain ⟨XB, hXB⟩ : ∃ W, W = X9.alloc (.cells #[.int .i64 ti, .int .i64 (j : Int), .int .i64 xt, .int .i64 xk, .int .i64 xn] 55) := ⟨_, rfl⟩
                          have HXB : Hid (Aft X9 XB ∧ ∀ Z, Aft XB Z → Z.cell? ⟨X9.heap.size, 0, none⟩ = some (.int .i64 ti) ∧ Z.cell? ⟨X9.heap.size, 1, none⟩ = some (.int .i64 (j : Int)) ∧ Z.cell? ⟨X9.heap.size, 2, none⟩ = some (.int .i64 xt) ∧ Z.cell? ⟨X9.heap.size, 3, none⟩ = some (.int .i64 xk) ∧ Z.cell? ⟨X9.heap.size, 4, none⟩ = some (.int .i64 xn)) := Lib.hid (by
                            have e : XB.heap[X9.heap.size]? = some (.cells #[.int .i64 ti, .int .i64 (j : Int), .int .i64 xt, .int .i64 xk, .int .i64 xn] 55) := by rw [hXB]; exact heap_alloc_at _ _ _ rfl
                            refine ⟨by rw [hXB]; exact Aft.one _, fun Z hZ => ?_⟩
                            have k := (hZ.block _ (heap_lt e)).trans e
                            simp [World.cell?, k])
                          have hxb : X9.heap.size < XB.heap.size := by rw [hXB]; simp
                          go_upto_region 17 with fail
                          rw [← hX9]
                          clear hX9
                          go_upto_region 19 with fail
                          rw [← hXB]
                          clear hXB i0 i1 k0 k1 k2 k3 c0 c1 hx9 hx8 hwr d0 d1 d2 d3
                          obtain ⟨y0, y1, y2, y3, y4⟩ := HXB.out.2 XB (Aft.refl _)
                          cases q2 with
                          | true =>
                            go_wp2_with fail
                            refine (HN2.out XB HXB.out.1).mono ?_
                            rintro e w5 ⟨rfl, ha⟩
                            have HW5 : Hid (Aft XB w5) := Lib.hid ha
                            clear ha y0 y1 y2 y3 y4 hxb
                            obtain ⟨⟨i0, i1⟩, ⟨k0, k1, k2, k3⟩, c0, c1⟩ := HCZ.out w5 (HXB.out.1.trans HW5.out)
                            have z1 : wr.heap.size < w5.heap.size := Nat.lt_of_lt_of_le H9.out.2.2.2 (HXB.out.1.trans HW5.out).size
                            have z2 : w.heap.size < w5.heap.size := (HC.out _ (HAW.out.trans (H9.out.1.trans (HXB.out.1.trans HW5.out)))).2
                            go_wp2_with fail
                            refine (HFI.out w5 (HXB.out.1.trans HW5.out)).mono ?_
                            rintro e w7 ⟨up, uc, rfl, hov, ha⟩
                            obtain ⟨X7, hX7⟩ : ∃ Y, Y = w7.alloc (boxT uid ud (.slice up ul.length uc)) := ⟨_, rfl⟩
                            obtain ⟨XD, hXD⟩ : ∃ Y, Y = X7.drew := ⟨_, rfl⟩
                            have H7 : Hid (Aft X9 XD ∧ Oprs 0 XD (.slice up ul.length uc) ul ∧ XD.heap[w7.heap.size]? = some (boxT uid ud (.slice up ul.length uc))) := Lib.hid (by
                              have h7 : Aft w7 XD := by rw [hXD, hX7]; exact (Aft.one _).drew 1
                              exact ⟨(HXB.out.1.trans HW5.out).trans (ha.trans h7), (hov.below h7).2, by rw [hXD, hX7]; exact heap_alloc_at _ _ _ rfl⟩)
                            have HC7 : Hid (∀ Z, Aft XD Z → (Z.cell? ⟨w7.heap.size, 0, none⟩ = some (.int .i64 uid) ∧ Z.cell? ⟨w7.heap.size, 1, none⟩ = some (.bool ud) ∧ Z.cell? ⟨w7.heap.size, 2, none⟩ = some (.slice up ul.length uc)) ∧ Z.cell? ⟨wr.heap.size, 1, none⟩ = some (.int .i64 xk) ∧ Z.cell? ⟨wr.heap.size, 3, none⟩ = some (.int .i64 xn)) := Lib.hid fun Z hZ => ⟨(cellsT ((hZ.block _ (heap_lt H7.out.2.2)).trans H7.out.2.2)).2.1, (HCZ.out Z (H7.out.1.trans hZ)).2.1.2.1, (HCZ.out Z (H7.out.1.trans hZ)).2.1.2.2.2⟩
                            have HW7 := Lib.hid (HWT.out XD _ H7.out.2.1)
                            obtain ⟨⟨_, _⟩, ⟨j0, j1, j2, j3⟩, e0, e1⟩ := HCZ.out w7 ((HXB.out.1.trans HW5.out).trans ha)
                            have z3 : wr.heap.size < w7.heap.size := Nat.lt_of_lt_of_le z1 ha.size
                            clear ha hov HFI HN2 HN3 HWT
                            unfold boxT at hX7
                            obtain ⟨un, hun⟩ : ∃ n, n = ul.length := ⟨_, rfl⟩
                            rw [← hun] at hX7 HC7 HW7 H7 ⊢
                            clear hun
                            go_upto_region 21 with fail
                            rw [← hX7]
                            clear hX7 i0 i1 k0 k1 k2 k3 c0 c1 j0 j1 j2 j3 e0 e1 z1 z2 z3
                            refine wp_region_held_drew (S := fun Z => (Z.cell? ⟨w7.heap.size, 0, none⟩ = some (.int .i64 uid) ∧ Z.cell? ⟨w7.heap.size, 1, none⟩ = some (.bool ud) ∧ Z.cell? ⟨w7.heap.size, 2, none⟩ = some (.slice up un uc)) ∧ Z.cell? ⟨wr.heap.size, 1, none⟩ = some (.int .i64 xk) ∧ Z.cell? ⟨wr.heap.size, 3, none⟩ = some (.int .i64 xn)) (by kernel_rfl) (hXD ▸ HC7.out _ (Aft.refl _)) (fun hHeld0 => ?_)
                            rw [← hXD] at hHeld0 ⊢
                            clear hXD
                            cases ud with
                            | false =>
                              refine wpAnyH_take (i := 0) (v := ?_) rfl (by kernel_rfl) (by kernel_rfl) (by kernel_rfl) (fun _ _ _ h => h) (Or.inl ⟨by rfl, ?yr1x0⟩) (by assumption) ?qr1x0
                              case yr1x0 => (intro wz hSw; (try dsimp only at hSw); go_simp <;> with_reducible rfl)
                              try simp only [Act.put, List.getElem_toArray, List.getElem_cons_zero, List.setIfInBounds_toArray, List.set_cons_zero, List.set_cons_succ]
                              refine wpAnyH_take (i := 1) (v := ?_) rfl (by kernel_rfl) (by kernel_rfl) (by kernel_rfl) (fun _ _ _ h => h) (Or.inl ⟨by rfl, ?yr1x1⟩) (by assumption) ?qr1x1
                              case yr1x1 => (intro wz hSw; (try dsimp only at hSw); go_simp <;> with_reducible rfl)
                              try simp only [Act.put, List.getElem_toArray, List.getElem_cons_zero, List.getElem_cons_succ, List.setIfInBounds_toArray, List.set_cons_zero, List.set_cons_succ]
                              refine wpAnyH_take (i := 2) (v := ?_) rfl (by kernel_rfl) (by kernel_rfl) (by kernel_rfl) (fun _ _ _ h => h) (Or.inl ⟨by rfl, ?yr1x2⟩) (by assumption) ?qr1x2
                              case yr1x2 => (intro wz hSw; (try dsimp only at hSw); go_simp <;> with_reducible rfl)
                              try simp only [Act.put, List.getElem_toArray, List.getElem_cons_zero, List.getElem_cons_succ, List.setIfInBounds_toArray, List.set_cons_zero, List.set_cons_succ]
                              refine wpAnyH_take (i := 3) (v := undef) rfl (by kernel_rfl) (by kernel_rfl) (by kernel_rfl) (fun _ _ _ h => h) (Or.inr ⟨by rfl, rfl⟩) (by assumption) ?_
                              try simp only [Act.put, List.getElem_toArray, List.getElem_cons_zero, List.getElem_cons_succ, List.setIfInBounds_toArray, List.set_cons_zero, List.set_cons_succ]
                              refine wpAnyH_take (i := 4) (v := undef) rfl (by kernel_rfl) (by kernel_rfl) (by kernel_rfl) (fun _ _ _ h => h) (Or.inr ⟨by rfl, rfl⟩) (by assumption) ?_
                              try simp only [Act.put, List.getElem_toArray, List.getElem_cons_zero, List.getElem_cons_succ, List.setIfInBounds_toArray, List.set_cons_zero, List.set_cons_succ]
                              refine wpAnyH_take (i := 5) (v := undef) rfl (by kernel_rfl) (by kernel_rfl) (by kernel_rfl) (fun _ _ _ h => h) (Or.inr ⟨by rfl, rfl⟩) (by assumption) ?_
                              try simp only [Act.put, List.getElem_toArray, List.getElem_cons_zero, List.getElem_cons_succ, List.setIfInBounds_toArray, List.set_cons_zero, List.set_cons_succ]
                              refine wpAnyH_take (i := 6) (v := undef) rfl (by kernel_rfl) (by kernel_rfl) (by kernel_rfl) (fun _ _ _ h => h) (Or.inr ⟨by rfl, rfl⟩) (by assumption) ?_
                              try simp only [Act.put, List.getElem_toArray, List.getElem_cons_zero, List.getElem_cons_succ, List.setIfInBounds_toArray, List.set_cons_zero, List.set_cons_succ]
                              refine wpAnyH_take (i := 7) (v := undef) rfl (by kernel_rfl) (by kernel_rfl) (by kernel_rfl) (fun _ _ _ h => h) (Or.inr ⟨by rfl, rfl⟩) (by assumption) ?_
                              try simp only [Act.put, List.getElem_toArray, List.getElem_cons_zero, List.getElem_cons_succ, List.setIfInBounds_toArray, List.set_cons_zero, List.set_cons_succ]
                              refine wpAnyH_take (i := 8) (v := undef) rfl (by kernel_rfl) (by kernel_rfl) (by kernel_rfl) (fun _ _ _ h => h) (Or.inr ⟨by rfl, rfl⟩) (by assumption) ?_
                              try simp only [Act.put, List.getElem_toArray, List.getElem_cons_zero, List.getElem_cons_succ, List.setIfInBounds_toArray, List.set_cons_zero, List.set_cons_succ]
                              refine wpAnyH_take (i := 9) (v := undef) rfl (by kernel_rfl) (by kernel_rfl) (by kernel_rfl) (fun _ _ _ h => h) (Or.inr ⟨by rfl, rfl⟩) (by assumption) ?_
                              try simp only [Act.put, List.getElem_toArray, List.getElem_cons_zero, List.getElem_cons_succ, List.setIfInBounds_toArray, List.set_cons_zero, List.set_cons_succ]
                              refine wpAnyH_take (i := 10) (v := ?_) rfl (by kernel_rfl) (by kernel_rfl) (by kernel_rfl) (fun _ _ _ h => h) (Or.inl ⟨by rfl, ?yr1x10⟩) (by assumption) ?qr1x10
                              case yr1x10 => (intro wz hSw; (try dsimp only at hSw); go_simp <;> with_reducible rfl)
                              try simp only [Act.put, List.getElem_toArray, List.getElem_cons_zero, List.getElem_cons_succ, List.setIfInBounds_toArray, List.set_cons_zero, List.set_cons_succ]
                              refine wpAnyH_take (i := 11) (v := ?_) rfl (by kernel_rfl) (by kernel_rfl) (by kernel_rfl) (fun _ _ _ h => h) (Or.inl ⟨by rfl, ?yr1x11⟩) (by assumption) ?qr1x11
                              case yr1x11 => (intro wz hSw; (try dsimp only at hSw); go_simp <;> with_reducible rfl)
                              try simp only [Act.put, List.getElem_toArray, List.getElem_cons_zero, List.getElem_cons_succ, List.setIfInBounds_toArray, List.set_cons_zero, List.set_cons_succ]
                              refine wpAnyH_done (by kernel_rfl) ?_ _
                              clear hHeld0
                              have H70 : Hid (Aft X9 XD) := Lib.hid H7.out.1
                              have HR := Lib.hid (HGO.out XD H70.out)
                              obtain ⟨⟨i0, i1⟩, ⟨k0, k1, k2, k3⟩, c0, c1⟩ := HCZ.out XD H70.out
                              have z2 : w.heap.size < XD.heap.size := (HC.out _ (HAW.out.trans (H9.out.1.trans H70.out))).2
                              clear HGO HCZ H9 HXB HCO HC7 H7 HNON HEDG HW7
                              go_wp2_with fail
                              go_roundw
                              case rel => exact ⟨j + 1, by go_num, by omega, HR⟩
                              case measure => simp [intOf]; omega
                            | true =>
                              have hnw : (xn == ((wn : Nat) : Int)) = false := by have := HNON.out; simp at this; simp [this]
                              refine wpAnyH_take (i := 0) (v := ?_) rfl (by kernel_rfl) (by kernel_rfl) (by kernel_rfl) (fun _ _ _ h => h) (Or.inl ⟨by rfl, ?yr1y0⟩) (by assumption) ?qr1y0
                              case yr1y0 => (intro wz hSw; (try dsimp only at hSw); go_simp <;> with_reducible rfl)
                              try simp only [Act.put, List.getElem_toArray, List.getElem_cons_zero, List.setIfInBounds_toArray, List.set_cons_zero, List.set_cons_succ]
                              refine wpAnyH_take (i := 1) (v := ?_) rfl (by kernel_rfl) (by kernel_rfl) (by kernel_rfl) (fun _ _ _ h => h) (Or.inl ⟨by rfl, ?yr1y1⟩) (by assumption) ?qr1y1
                              case yr1y1 => (intro wz hSw; (try dsimp only at hSw); go_simp <;> with_reducible rfl)
                              try simp only [Act.put, List.getElem_toArray, List.getElem_cons_zero, List.getElem_cons_succ, List.setIfInBounds_toArray, List.set_cons_zero, List.set_cons_succ]
                              refine wpAnyH_take (i := 2) (v := ?_) rfl (by kernel_rfl) (by kernel_rfl) (by kernel_rfl) (fun _ _ _ h => h) (Or.inl ⟨by rfl, ?yr1y2⟩) (by assumption) ?qr1y2
                              case yr1y2 => (intro wz hSw; (try dsimp only at hSw); go_simp <;> with_reducible rfl)
                              try simp only [Act.put, List.getElem_toArray, List.getElem_cons_zero, List.getElem_cons_succ, List.setIfInBounds_toArray, List.set_cons_zero, List.set_cons_succ]
                              refine wpAnyH_take (i := 3) (v := ?_) rfl (by kernel_rfl) (by kernel_rfl) (by kernel_rfl) (fun _ _ _ h => h) (Or.inl ⟨by rfl, ?yr1y3⟩) (by assumption) ?qr1y3
                              case yr1y3 => (intro wz hSw; (try dsimp only at hSw); go_simp <;> with_reducible rfl)
                              try simp only [Act.put, List.getElem_toArray, List.getElem_cons_zero, List.getElem_cons_succ, List.setIfInBounds_toArray, List.set_cons_zero, List.set_cons_succ]
                              refine wpAnyH_take (i := 4) (v := ?_) rfl (by kernel_rfl) (by kernel_rfl) (by kernel_rfl) (fun _ _ _ h => h) (Or.inl ⟨by rfl, ?yr1y4⟩) (by assumption) ?qr1y4
                              case yr1y4 => (intro wz hSw; (try dsimp only at hSw); go_simp <;> with_reducible rfl)
                              try simp only [Act.put, List.getElem_toArray, List.getElem_cons_zero, List.getElem_cons_succ, List.setIfInBounds_toArray, List.set_cons_zero, List.set_cons_succ]
                              refine wpAnyH_take (i := 5) (v := ?_) rfl (by kernel_rfl) (by kernel_rfl) (by kernel_rfl) (fun _ _ _ h => h) (Or.inl ⟨by rfl, ?yr1y5⟩) (by assumption) ?qr1y5
                              case yr1y5 => (intro wz hSw; (try dsimp only at hSw); go_simp <;> with_reducible rfl)
                              try simp only [Act.put, List.getElem_toArray, List.getElem_cons_zero, List.getElem_cons_succ, List.setIfInBounds_toArray, List.set_cons_zero, List.set_cons_succ]
                              refine wpAnyH_take (i := 6) (v := ?_) rfl (by kernel_rfl) (by kernel_rfl) (by kernel_rfl) (fun _ _ _ h => h) (Or.inl ⟨by rfl, ?yr1y6⟩) (by assumption) ?qr1y6
                              case yr1y6 => (intro wz hSw; (try dsimp only at hSw); go_simp <;> with_reducible rfl)
                              try simp only [Act.put, List.getElem_toArray, List.getElem_cons_zero, List.getElem_cons_succ, List.setIfInBounds_toArray, List.set_cons_zero, List.set_cons_succ]
                              refine wpAnyH_take (i := 7) (v := ?_) rfl (by kernel_rfl) (by kernel_rfl) (by kernel_rfl) (fun _ _ _ h => h) (Or.inl ⟨by rfl, ?yr1y7⟩) (by assumption) ?qr1y7
                              case yr1y7 => (intro wz hSw; (try dsimp only at hSw); go_simp <;> with_reducible rfl)
                              try simp only [Act.put, List.getElem_toArray, List.getElem_cons_zero, List.getElem_cons_succ, List.setIfInBounds_toArray, List.set_cons_zero, List.set_cons_succ]
                              refine wpAnyH_ready (rs := [8]) (by kernel_rfl) (by simp) ?_
                              refine AllReadyH.cons rfl (fun K hK => ?_) AllReadyH.nil
                              go_simp
                              refine HW7.out.mono ?_
                              rintro e w8 ⟨rfl, ha⟩
                              have H8 : Hid (Aft X9 w8) := Lib.hid (H7.out.1.trans ha)
                              refine hK.out _ _ (HC7.out _ ha) (fun hHeld1 => ?_)
                              clear hK K ha
                              try simp only [Act.put, List.getElem_toArray, List.getElem_cons_zero, List.getElem_cons_succ, List.setIfInBounds_toArray, List.set_cons_zero, List.set_cons_succ]
                              refine wpAnyH_take (i := 9) (v := ?_) rfl (by kernel_rfl) (by kernel_rfl) (by kernel_rfl) (fun _ _ _ h => h) (Or.inl ⟨by rfl, ?yr1y9⟩) (by assumption) ?qr1y9
                              case yr1y9 => (intro wz hSw; (try dsimp only at hSw); go_simp <;> with_reducible rfl)
                              try simp only [Act.put, List.getElem_toArray, List.getElem_cons_zero, List.getElem_cons_succ, List.setIfInBounds_toArray, List.set_cons_zero, List.set_cons_succ]
                              refine wpAnyH_take (i := 10) (v := ?_) rfl (by kernel_rfl) (by kernel_rfl) (by kernel_rfl) (fun _ _ _ h => h) (Or.inl ⟨by rfl, ?yr1y10⟩) (by assumption) ?qr1y10
                              case yr1y10 => (intro wz hSw; (try dsimp only at hSw); go_simp <;> with_reducible rfl)
                              try simp only [Act.put, List.getElem_toArray, List.getElem_cons_zero, List.getElem_cons_succ, List.setIfInBounds_toArray, List.set_cons_zero, List.set_cons_succ]
                              refine wpAnyH_take (i := 11) (v := ?_) rfl (by kernel_rfl) (by kernel_rfl) (by kernel_rfl) (fun _ _ _ h => h) (Or.inl ⟨by rfl, ?yr1y11⟩) (by assumption) ?qr1y11
                              case yr1y11 => (intro wz hSw; (try dsimp only at hSw); go_simp <;> with_reducible rfl)
                              try simp only [Act.put, List.getElem_toArray, List.getElem_cons_zero, List.getElem_cons_succ, List.setIfInBounds_toArray, List.set_cons_zero, List.set_cons_succ]
                              refine wpAnyH_done (by kernel_rfl) ?_ _
                              clear hHeld0 hHeld1
                              have HR := Lib.hid (HGO.out w8 H8.out)
                              obtain ⟨⟨i0, i1⟩, ⟨k0, k1, k2, k3⟩, c0, c1⟩ := HCZ.out w8 H8.out
                              have z2 : w.heap.size < w8.heap.size := (HC.out _ (HAW.out.trans (H9.out.1.trans H8.out))).2
                              clear HGO HCZ H9 HXB HCO HC7 H7 HNON HEDG HW7
                              go_wp2_with fail
                              go_roundw
                              case rel => exact ⟨j + 1, by go_num, by omega, HR⟩
                              case measure => simp [intOf]; omega
                          | false =>
                            go_wp2_with fail
                            refine (HN2.out XB HXB.out.1).mono ?_
                            rintro e w5 ⟨rfl, ha⟩
                            have HW5 : Hid (Aft XB w5) := Lib.hid ha
                            have hxb := Nat.lt_of_lt_of_le hxb ha.size
                            clear ha y0 y1 y2 y3 y4
                            obtain ⟨y0, y1, y2, y3, y4⟩ := HXB.out.2 w5 HW5.out
                            cases q3 with
                            | true =>
                              go_wp2_with fail
                              refine (HN3.out w5 (HXB.out.1.trans HW5.out)).mono ?_
                              rintro e w6 ⟨rfl, ha⟩
                              have HW6 : Hid (Aft XB w6) := Lib.hid (HW5.out.trans ha)
                              clear ha y0 y1 y2 y3 y4 hxb HW5
                              obtain ⟨⟨i0, i1⟩, ⟨k0, k1, k2, k3⟩, c0, c1⟩ := HCZ.out w6 (HXB.out.1.trans HW6.out)
                              have z1 : wr.heap.size < w6.heap.size := Nat.lt_of_lt_of_le H9.out.2.2.2 (HXB.out.1.trans HW6.out).size
                              have z2 : w.heap.size < w6.heap.size := (HC.out _ (HAW.out.trans (H9.out.1.trans (HXB.out.1.trans HW6.out)))).2
                              go_wp2_with fail
                              refine (HFI.out w6 (HXB.out.1.trans HW6.out)).mono ?_
                              rintro e w7 ⟨up, uc, rfl, hov, ha⟩
                              obtain ⟨X7, hX7⟩ : ∃ Y, Y = w7.alloc (boxT uid ud (.slice up ul.length uc)) := ⟨_, rfl⟩
                              obtain ⟨XD, hXD⟩ : ∃ Y, Y = X7.drew := ⟨_, rfl⟩
                              have H7 : Hid (Aft X9 XD ∧ Oprs 0 XD (.slice up ul.length uc) ul ∧ XD.heap[w7.heap.size]? = some (boxT uid ud (.slice up ul.length uc))) := Lib.hid (by
                                have h7 : Aft w7 XD := by rw [hXD, hX7]; exact (Aft.one _).drew 1
                                exact ⟨(HXB.out.1.trans HW6.out).trans (ha.trans h7), (hov.below h7).2, by rw [hXD, hX7]; exact heap_alloc_at _ _ _ rfl⟩)
                              have HC7 : Hid (∀ Z, Aft XD Z → (Z.cell? ⟨w7.heap.size, 0, none⟩ = some (.int .i64 uid) ∧ Z.cell? ⟨w7.heap.size, 1, none⟩ = some (.bool ud) ∧ Z.cell? ⟨w7.heap.size, 2, none⟩ = some (.slice up ul.length uc)) ∧ Z.cell? ⟨wr.heap.size, 1, none⟩ = some (.int .i64 xk) ∧ Z.cell? ⟨wr.heap.size, 3, none⟩ = some (.int .i64 xn)) := Lib.hid fun Z hZ => ⟨(cellsT ((hZ.block _ (heap_lt H7.out.2.2)).trans H7.out.2.2)).2.1, (HCZ.out Z (H7.out.1.trans hZ)).2.1.2.1, (HCZ.out Z (H7.out.1.trans hZ)).2.1.2.2.2⟩
                              have HW7 := Lib.hid (HWT.out XD _ H7.out.2.1)
                              obtain ⟨⟨_, _⟩, ⟨j0, j1, j2, j3⟩, e0, e1⟩ := HCZ.out w7 ((HXB.out.1.trans HW6.out).trans ha)
                              have z3 : wr.heap.size < w7.heap.size := Nat.lt_of_lt_of_le z1 ha.size
                              clear ha hov HFI HN2 HN3 HWT
                              unfold boxT at hX7
                              obtain ⟨un, hun⟩ : ∃ n, n = ul.length := ⟨_, rfl⟩
                              rw [← hun] at hX7 HC7 HW7 H7 ⊢
                              clear hun
                              go_upto_region 21 with fail
                              rw [← hX7]
                              clear hX7 i0 i1 k0 k1 k2 k3 c0 c1 j0 j1 j2 j3 e0 e1 z1 z2 z3
                              refine wp_region_held_drew (S := fun Z => (Z.cell? ⟨w7.heap.size, 0, none⟩ = some (.int .i64 uid) ∧ Z.cell? ⟨w7.heap.size, 1, none⟩ = some (.bool ud) ∧ Z.cell? ⟨w7.heap.size, 2, none⟩ = some (.slice up un uc)) ∧ Z.cell? ⟨wr.heap.size, 1, none⟩ = some (.int .i64 xk) ∧ Z.cell? ⟨wr.heap.size, 3, none⟩ = some (.int .i64 xn)) (by kernel_rfl) (hXD ▸ HC7.out _ (Aft.refl _)) (fun hHeld0 => ?_)
                              rw [← hXD] at hHeld0 ⊢
                              clear hXD
                              cases ud with
                              | false =>
                                refine wpAnyH_take (i := 0) (v := ?_) rfl (by kernel_rfl) (by kernel_rfl) (by kernel_rfl) (fun _ _ _ h => h) (Or.inl ⟨by rfl, ?yr2x0⟩) (by assumption) ?qr2x0
                                case yr2x0 => (intro wz hSw; (try dsimp only at hSw); go_simp <;> with_reducible rfl)
                                try simp only [Act.put, List.getElem_toArray, List.getElem_cons_zero, List.setIfInBounds_toArray, List.set_cons_zero, List.set_cons_succ]
                                refine wpAnyH_take (i := 1) (v := ?_) rfl (by kernel_rfl) (by kernel_rfl) (by kernel_rfl) (fun _ _ _ h => h) (Or.inl ⟨by rfl, ?yr2x1⟩) (by assumption) ?qr2x1
                                case yr2x1 => (intro wz hSw; (try dsimp only at hSw); go_simp <;> with_reducible rfl)
                                try simp only [Act.put, List.getElem_toArray, List.getElem_cons_zero, List.getElem_cons_succ, List.setIfInBounds_toArray, List.set_cons_zero, List.set_cons_succ]
                                refine wpAnyH_take (i := 2) (v := ?_) rfl (by kernel_rfl) (by kernel_rfl) (by kernel_rfl) (fun _ _ _ h => h) (Or.inl ⟨by rfl, ?yr2x2⟩) (by assumption) ?qr2x2
                                case yr2x2 => (intro wz hSw; (try dsimp only at hSw); go_simp <;> with_reducible rfl)
                                try simp only [Act.put, List.getElem_toArray, List.getElem_cons_zero, List.getElem_cons_succ, List.setIfInBounds_toArray, List.set_cons_zero, List.set_cons_succ]
                                refine wpAnyH_take (i := 3) (v := undef) rfl (by kernel_rfl) (by kernel_rfl) (by kernel_rfl) (fun _ _ _ h => h) (Or.inr ⟨by rfl, rfl⟩) (by assumption) ?_
                                try simp only [Act.put, List.getElem_toArray, List.getElem_cons_zero, List.getElem_cons_succ, List.setIfInBounds_toArray, List.set_cons_zero, List.set_cons_succ]
                                refine wpAnyH_take (i := 4) (v := undef) rfl (by kernel_rfl) (by kernel_rfl) (by kernel_rfl) (fun _ _ _ h => h) (Or.inr ⟨by rfl, rfl⟩) (by assumption) ?_
                                try simp only [Act.put, List.getElem_toArray, List.getElem_cons_zero, List.getElem_cons_succ, List.setIfInBounds_toArray, List.set_cons_zero, List.set_cons_succ]
                                refine wpAnyH_take (i := 5) (v := undef) rfl (by kernel_rfl) (by kernel_rfl) (by kernel_rfl) (fun _ _ _ h => h) (Or.inr ⟨by rfl, rfl⟩) (by assumption) ?_
                                try simp only [Act.put, List.getElem_toArray, List.getElem_cons_zero, List.getElem_cons_succ, List.setIfInBounds_toArray, List.set_cons_zero, List.set_cons_succ]
                                refine wpAnyH_take (i := 6) (v := undef) rfl (by kernel_rfl) (by kernel_rfl) (by kernel_rfl) (fun _ _ _ h => h) (Or.inr ⟨by rfl, rfl⟩) (by assumption) ?_
                                try simp only [Act.put, List.getElem_toArray, List.getElem_cons_zero, List.getElem_cons_succ, List.setIfInBounds_toArray, List.set_cons_zero, List.set_cons_succ]
                                refine wpAnyH_take (i := 7) (v := undef) rfl (by kernel_rfl) (by kernel_rfl) (by kernel_rfl) (fun _ _ _ h => h) (Or.inr ⟨by rfl, rfl⟩) (by assumption) ?_
                                try simp only [Act.put, List.getElem_toArray, List.getElem_cons_zero, List.getElem_cons_succ, List.setIfInBounds_toArray, List.set_cons_zero, List.set_cons_succ]
                                refine wpAnyH_take (i := 8) (v := undef) rfl (by kernel_rfl) (by kernel_rfl) (by kernel_rfl) (fun _ _ _ h => h) (Or.inr ⟨by rfl, rfl⟩) (by assumption) ?_
                                try simp only [Act.put, List.getElem_toArray, List.getElem_cons_zero, List.getElem_cons_succ, List.setIfInBounds_toArray, List.set_cons_zero, List.set_cons_succ]
                                refine wpAnyH_take (i := 9) (v := undef) rfl (by kernel_rfl) (by kernel_rfl) (by kernel_rfl) (fun _ _ _ h => h) (Or.inr ⟨by rfl, rfl⟩) (by assumption) ?_
                                try simp only [Act.put, List.getElem_toArray, List.getElem_cons_zero, List.getElem_cons_succ, List.setIfInBounds_toArray, List.set_cons_zero, List.set_cons_succ]
                                refine wpAnyH_take (i := 10) (v := ?_) rfl (by kernel_rfl) (by kernel_rfl) (by kernel_rfl) (fun _ _ _ h => h) (Or.inl ⟨by rfl, ?yr2x10⟩) (by assumption) ?qr2x10
                                case yr2x10 => (intro wz hSw; (try dsimp only at hSw); go_simp <;> with_reducible rfl)
                                try simp only [Act.put, List.getElem_toArray, List.getElem_cons_zero, List.getElem_cons_succ, List.setIfInBounds_toArray, List.set_cons_zero, List.set_cons_succ]
                                refine wpAnyH_take (i := 11) (v := ?_) rfl (by kernel_rfl) (by kernel_rfl) (by kernel_rfl) (fun _ _ _ h => h) (Or.inl ⟨by rfl, ?yr2x11⟩) (by assumption) ?qr2x11
                                case yr2x11 => (intro wz hSw; (try dsimp only at hSw); go_simp <;> with_reducible rfl)
                                try simp only [Act.put, List.getElem_toArray, List.getElem_cons_zero, List.getElem_cons_succ, List.setIfInBounds_toArray, List.set_cons_zero, List.set_cons_succ]
                                refine wpAnyH_done (by kernel_rfl) ?_ _
                                clear hHeld0
                                have H70 : Hid (Aft X9 XD) := Lib.hid H7.out.1
                                have HR := Lib.hid (HGO.out XD H70.out)
                                obtain ⟨⟨i0, i1⟩, ⟨k0, k1, k2, k3⟩, c0, c1⟩ := HCZ.out XD H70.out
                                have z2 : w.heap.size < XD.heap.size := (HC.out _ (HAW.out.trans (H9.out.1.trans H70.out))).2
                                clear HGO HCZ H9 HXB HCO HC7 H7 HNON HEDG HW7
                                go_wp2_with fail
                                go_roundw
                                case rel => exact ⟨j + 1, by go_num, by omega, HR⟩
                                case measure => simp [intOf]; omega
                              | true =>
                                have hnw : (xn == ((wn : Nat) : Int)) = false := by have := HNON.out; simp at this; simp [this]
                                refine wpAnyH_take (i := 0) (v := ?_) rfl (by kernel_rfl) (by kernel_rfl) (by kernel_rfl) (fun _ _ _ h => h) (Or.inl ⟨by rfl, ?yr2y0⟩) (by assumption) ?qr2y0
                                case yr2y0 => (intro wz hSw; (try dsimp only at hSw); go_simp <;> with_reducible rfl)
                                try simp only [Act.put, List.getElem_toArray, List.getElem_cons_zero, List.setIfInBounds_toArray, List.set_cons_zero, List.set_cons_succ]
                                refine wpAnyH_take (i := 1) (v := ?_) rfl (by kernel_rfl) (by kernel_rfl) (by kernel_rfl) (fun _ _ _ h => h) (Or.inl ⟨by rfl, ?yr2y1⟩) (by assumption) ?qr2y1
                                case yr2y1 => (intro wz hSw; (try dsimp only at hSw); go_simp <;> with_reducible rfl)
                                try simp only [Act.put, List.getElem_toArray, List.getElem_cons_zero, List.getElem_cons_succ, List.setIfInBounds_toArray, List.set_cons_zero, List.set_cons_succ]
                                refine wpAnyH_take (i := 2) (v := ?_) rfl (by kernel_rfl) (by kernel_rfl) (by kernel_rfl) (fun _ _ _ h => h) (Or.inl ⟨by rfl, ?yr2y2⟩) (by assumption) ?qr2y2
                                case yr2y2 => (intro wz hSw; (try dsimp only at hSw); go_simp <;> with_reducible rfl)
                                try simp only [Act.put, List.getElem_toArray, List.getElem_cons_zero, List.getElem_cons_succ, List.setIfInBounds_toArray, List.set_cons_zero, List.set_cons_succ]
                                refine wpAnyH_take (i := 3) (v := ?_) rfl (by kernel_rfl) (by kernel_rfl) (by kernel_rfl) (fun _ _ _ h => h) (Or.inl ⟨by rfl, ?yr2y3⟩) (by assumption) ?qr2y3
                                case yr2y3 => (intro wz hSw; (try dsimp only at hSw); go_simp <;> with_reducible rfl)
                                try simp only [Act.put, List.getElem_toArray, List.getElem_cons_zero, List.getElem_cons_succ, List.setIfInBounds_toArray, List.set_cons_zero, List.set_cons_succ]
                                refine wpAnyH_take (i := 4) (v := ?_) rfl (by kernel_rfl) (by kernel_rfl) (by kernel_rfl) (fun _ _ _ h => h) (Or.inl ⟨by rfl, ?yr2y4⟩) (by assumption) ?qr2y4
                                case yr2y4 => (intro wz hSw; (try dsimp only at hSw); go_simp <;> with_reducible rfl)
                                try simp only [Act.put, List.getElem_toArray, List.getElem_cons_zero, List.getElem_cons_succ, List.setIfInBounds_toArray, List.set_cons_zero, List.set_cons_succ]
                                refine wpAnyH_take (i := 5) (v := ?_) rfl (by kernel_rfl) (by kernel_rfl) (by kernel_rfl) (fun _ _ _ h => h) (Or.inl ⟨by rfl, ?yr2y5⟩) (by assumption) ?qr2y5
                                case yr2y5 => (intro wz hSw; (try dsimp only at hSw); go_simp <;> with_reducible rfl)
                                try simp only [Act.put, List.getElem_toArray, List.getElem_cons_zero, List.getElem_cons_succ, List.setIfInBounds_toArray, List.set_cons_zero, List.set_cons_succ]
                                refine wpAnyH_take (i := 6) (v := ?_) rfl (by kernel_rfl) (by kernel_rfl) (by kernel_rfl) (fun _ _ _ h => h) (Or.inl ⟨by rfl, ?yr2y6⟩) (by assumption) ?qr2y6
                                case yr2y6 => (intro wz hSw; (try dsimp only at hSw); go_simp <;> with_reducible rfl)
                                try simp only [Act.put, List.getElem_toArray, List.getElem_cons_zero, List.getElem_cons_succ, List.setIfInBounds_toArray, List.set_cons_zero, List.set_cons_succ]
                                refine wpAnyH_take (i := 7) (v := ?_) rfl (by kernel_rfl) (by kernel_rfl) (by kernel_rfl) (fun _ _ _ h => h) (Or.inl ⟨by rfl, ?yr2y7⟩) (by assumption) ?qr2y7
                                case yr2y7 => (intro wz hSw; (try dsimp only at hSw); go_simp <;> with_reducible rfl)
                                try simp only [Act.put, List.getElem_toArray, List.getElem_cons_zero, List.getElem_cons_succ, List.setIfInBounds_toArray, List.set_cons_zero, List.set_cons_succ]
                                refine wpAnyH_ready (rs := [8]) (by kernel_rfl) (by simp) ?_
                                refine AllReadyH.cons rfl (fun K hK => ?_) AllReadyH.nil
                                go_simp
                                refine HW7.out.mono ?_
                                rintro e w8 ⟨rfl, ha⟩
                                have H8 : Hid (Aft X9 w8) := Lib.hid (H7.out.1.trans ha)
                                refine hK.out _ _ (HC7.out _ ha) (fun hHeld1 => ?_)
                                clear hK K ha
                                try simp only [Act.put, List.getElem_toArray, List.getElem_cons_zero, List.getElem_cons_succ, List.setIfInBounds_toArray, List.set_cons_zero, List.set_cons_succ]
                                refine wpAnyH_take (i := 9) (v := ?_) rfl (by kernel_rfl) (by kernel_rfl) (by kernel_rfl) (fun _ _ _ h => h) (Or.inl ⟨by rfl, ?yr2y9⟩) (by assumption) ?qr2y9
                                case yr2y9 => (intro wz hSw; (try dsimp only at hSw); go_simp <;> with_reducible rfl)
                                try simp only [Act.put, List.getElem_toArray, List.getElem_cons_zero, List.getElem_cons_succ, List.setIfInBounds_toArray, List.set_cons_zero, List.set_cons_succ]
                                refine wpAnyH_take (i := 10) (v := ?_) rfl (by kernel_rfl) (by kernel_rfl) (by kernel_rfl) (fun _ _ _ h => h) (Or.inl ⟨by rfl, ?yr2y10⟩) (by assumption) ?qr2y10
                                case yr2y10 => (intro wz hSw; (try dsimp only at hSw); go_simp <;> with_reducible rfl)
                                try simp only [Act.put, List.getElem_toArray, List.getElem_cons_zero, List.getElem_cons_succ, List.setIfInBounds_toArray, List.set_cons_zero, List.set_cons_succ]
                                refine wpAnyH_take (i := 11) (v := ?_) rfl (by kernel_rfl) (by kernel_rfl) (by kernel_rfl) (fun _ _ _ h => h) (Or.inl ⟨by rfl, ?yr2y11⟩) (by assumption) ?qr2y11
                                case yr2y11 => (intro wz hSw; (try dsimp only at hSw); go_simp <;> with_reducible rfl)
                                try simp only [Act.put, List.getElem_toArray, List.getElem_cons_zero, List.getElem_cons_succ, List.setIfInBounds_toArray, List.set_cons_zero, List.set_cons_succ]
                                refine wpAnyH_done (by kernel_rfl) ?_ _
                                clear hHeld0 hHeld1
                                have HR := Lib.hid (HGO.out w8 H8.out)
                                obtain ⟨⟨i0, i1⟩, ⟨k0, k1, k2, k3⟩, c0, c1⟩ := HCZ.out w8 H8.out
                                have z2 : w.heap.size < w8.heap.size := (HC.out _ (HAW.out.trans (H9.out.1.trans H8.out))).2
                                clear HGO HCZ H9 HXB HCO HC7 H7 HNON HEDG HW7
                                go_wp2_with fail
                                go_roundw
                                case rel => exact ⟨j + 1, by go_num, by omega, HR⟩
                                case measure => simp [intOf]; omega
                            | false =>
                              go_wp2_with fail
                              refine (HN3.out w5 (HXB.out.1.trans HW5.out)).mono ?_
                              rintro e w6 ⟨rfl, ha⟩
                              have HW6 : Hid (Aft XB w6) := Lib.hid (HW5.out.trans ha)
                              clear ha y0 y1 y2 y3 y4 hxb HW5
                              obtain ⟨⟨i0, i1⟩, ⟨k0, k1, k2, k3⟩, c0, c1⟩ := HCZ.out w6 (HXB.out.1.trans HW6.out)
                              have z1 : wr.heap.size < w6.heap.size := Nat.lt_of_lt_of_le H9.out.2.2.2 (HXB.out.1.trans HW6.out).size
                              have z2 : w.heap.size < w6.heap.size := (HC.out _ (HAW.out.trans (H9.out.1.trans (HXB.out.1.trans HW6.out)))).2
                              go_wp2_with fail
                              refine (HFI.out w6 (HXB.out.1.trans HW6.out)).mono ?_
                              rintro e w7 ⟨up, uc, rfl, hov, ha⟩
                              obtain ⟨X7, hX7⟩ : ∃ Y, Y = w7.alloc (boxT uid ud (.slice up ul.length uc)) := ⟨_, rfl⟩
                              obtain ⟨XD, hXD⟩ : ∃ Y, Y = X7.drew := ⟨_, rfl⟩
                              have H7 : Hid (Aft X9 XD ∧ Oprs 0 XD (.slice up ul.length uc) ul ∧ XD.heap[w7.heap.size]? = some (boxT uid ud (.slice up ul.length uc))) := Lib.hid (by
                                have h7 : Aft w7 XD := by rw [hXD, hX7]; exact (Aft.one _).drew 1
                                exact ⟨(HXB.out.1.trans HW6.out).trans (ha.trans h7), (hov.below h7).2, by rw [hXD, hX7]; exact heap_alloc_at _ _ _ rfl⟩)
                              have HC7 : Hid (∀ Z, Aft XD Z → (Z.cell? ⟨w7.heap.size, 0, none⟩ = some (.int .i64 uid) ∧ Z.cell? ⟨w7.heap.size, 1, none⟩ = some (.bool ud) ∧ Z.cell? ⟨w7.heap.size, 2, none⟩ = some (.slice up ul.length uc)) ∧ Z.cell? ⟨wr.heap.size, 1, none⟩ = some (.int .i64 xk) ∧ Z.cell? ⟨wr.heap.size, 3, none⟩ = some (.int .i64 xn)) := Lib.hid fun Z hZ => ⟨(cellsT ((hZ.block _ (heap_lt H7.out.2.2)).trans H7.out.2.2)).2.1, (HCZ.out Z (H7.out.1.trans hZ)).2.1.2.1, (HCZ.out Z (H7.out.1.trans hZ)).2.1.2.2.2⟩
                              have HW7 := Lib.hid (HWT.out XD _ H7.out.2.1)
                              obtain ⟨⟨_, _⟩, ⟨j0, j1, j2, j3⟩, e0, e1⟩ := HCZ.out w7 ((HXB.out.1.trans HW6.out).trans ha)
                              have z3 : wr.heap.size < w7.heap.size := Nat.lt_of_lt_of_le z1 ha.size
                              clear ha hov HFI HN2 HN3 HWT
                              unfold boxT at hX7
                              obtain ⟨un, hun⟩ : ∃ n, n = ul.length := ⟨_, rfl⟩
                              rw [← hun] at hX7 HC7 HW7 H7 ⊢
                              clear hun
                              go_upto_region 21 with fail
                              rw [← hX7]
                              clear hX7 i0 i1 k0 k1 k2 k3 c0 c1 j0 j1 j2 j3 e0 e1 z1 z2 z3
                              refine wp_region_held_drew (S := fun Z => (Z.cell? ⟨w7.heap.size, 0, none⟩ = some (.int .i64 uid) ∧ Z.cell? ⟨w7.heap.size, 1, none⟩ = some (.bool ud) ∧ Z.cell? ⟨w7.heap.size, 2, none⟩ = some (.slice up un uc)) ∧ Z.cell? ⟨wr.heap.size, 1, none⟩ = some (.int .i64 xk) ∧ Z.cell? ⟨wr.heap.size, 3, none⟩ = some (.int .i64 xn)) (by kernel_rfl) (hXD ▸ HC7.out _ (Aft.refl _)) (fun hHeld0 => ?_)
                              rw [← hXD] at hHeld0 ⊢
                              clear hXD
                              obtain ⟨hud, hnw0⟩ : ud = true ∧ xn = ((wn : Nat) : Int) := by have := HNON.out; simp at this; exact this
                              subst hud
                              have hnw : (xn == ((wn : Nat) : Int)) = true := by simp [hnw0]
                              have hce : (((ce : Nat) : Int) == 0) = false := by have := HEDG.out rfl hnw0; simp; omega
                              clear hnw0
                              refine wpAnyH_take (i := 0) (v := ?_) rfl (by kernel_rfl) (by kernel_rfl) (by kernel_rfl) (fun _ _ _ h => h) (Or.inl ⟨by rfl, ?yr3z0⟩) (by assumption) ?qr3z0
                              case yr3z0 => (intro wz hSw; (try dsimp only at hSw); go_simp <;> with_reducible rfl)
                              try simp only [Act.put, List.getElem_toArray, List.getElem_cons_zero, List.setIfInBounds_toArray, List.set_cons_zero, List.set_cons_succ]
                              refine wpAnyH_take (i := 1) (v := ?_) rfl (by kernel_rfl) (by kernel_rfl) (by kernel_rfl) (fun _ _ _ h => h) (Or.inl ⟨by rfl, ?yr3z1⟩) (by assumption) ?qr3z1
                              case yr3z1 => (intro wz hSw; (try dsimp only at hSw); go_simp <;> with_reducible rfl)
                              try simp only [Act.put, List.getElem_toArray, List.getElem_cons_zero, List.getElem_cons_succ, List.setIfInBounds_toArray, List.set_cons_zero, List.set_cons_succ]
                              refine wpAnyH_take (i := 2) (v := ?_) rfl (by kernel_rfl) (by kernel_rfl) (by kernel_rfl) (fun _ _ _ h => h) (Or.inl ⟨by rfl, ?yr3z2⟩) (by assumption) ?qr3z2
                              case yr3z2 => (intro wz hSw; (try dsimp only at hSw); go_simp <;> with_reducible rfl)
                              try simp only [Act.put, List.getElem_toArray, List.getElem_cons_zero, List.getElem_cons_succ, List.setIfInBounds_toArray, List.set_cons_zero, List.set_cons_succ]
                              refine wpAnyH_take (i := 3) (v := ?_) rfl (by kernel_rfl) (by kernel_rfl) (by kernel_rfl) (fun _ _ _ h => h) (Or.inl ⟨by rfl, ?yr3z3⟩) (by assumption) ?qr3z3
                              case yr3z3 => (intro wz hSw; (try dsimp only at hSw); go_simp <;> with_reducible rfl)
                              try simp only [Act.put, List.getElem_toArray, List.getElem_cons_zero, List.getElem_cons_succ, List.setIfInBounds_toArray, List.set_cons_zero, List.set_cons_succ]
                              refine wpAnyH_take (i := 4) (v := ?_) rfl (by kernel_rfl) (by kernel_rfl) (by kernel_rfl) (fun _ _ _ h => h) (Or.inl ⟨by rfl, ?yr3z4⟩) (by assumption) ?qr3z4
                              case yr3z4 => (intro wz hSw; (try dsimp only at hSw); go_simp <;> with_reducible rfl)
                              try simp only [Act.put, List.getElem_toArray, List.getElem_cons_zero, List.getElem_cons_succ, List.setIfInBounds_toArray, List.set_cons_zero, List.set_cons_succ]
                              refine wpAnyH_take (i := 5) (v := ?_) rfl (by kernel_rfl) (by kernel_rfl) (by kernel_rfl) (fun _ _ _ h => h) (Or.inl ⟨by rfl, ?yr3z5⟩) (by assumption) ?qr3z5
                              case yr3z5 => (intro wz hSw; (try dsimp only at hSw); go_simp <;> with_reducible rfl)
                              try simp only [Act.put, List.getElem_toArray, List.getElem_cons_zero, List.getElem_cons_succ, List.setIfInBounds_toArray, List.set_cons_zero, List.set_cons_succ]
                              refine wpAnyH_take (i := 6) (v := ?_) rfl (by kernel_rfl) (by kernel_rfl) (by kernel_rfl) (fun _ _ _ h => h) (Or.inl ⟨by rfl, ?yr3z6⟩) (by assumption) ?qr3z6
                              case yr3z6 => (intro wz hSw; (try dsimp only at hSw); go_simp <;> with_reducible rfl)
                              try simp only [Act.put, List.getElem_toArray, List.getElem_cons_zero, List.getElem_cons_succ, List.setIfInBounds_toArray, List.set_cons_zero, List.set_cons_succ]
                              refine wpAnyH_take (i := 7) (v := ?_) rfl (by kernel_rfl) (by kernel_rfl) (by kernel_rfl) (fun _ _ _ h => h) (Or.inl ⟨by rfl, ?yr3z7⟩) (by assumption) ?qr3z7
                              case yr3z7 => (intro wz hSw; (try dsimp only at hSw); go_simp <;> with_reducible rfl)
                              try simp only [Act.put, List.getElem_toArray, List.getElem_cons_zero, List.getElem_cons_succ, List.setIfInBounds_toArray, List.set_cons_zero, List.set_cons_succ]
                              refine wpAnyH_ready (rs := [8]) (by kernel_rfl) (by simp) ?_
                              refine AllReadyH.cons rfl (fun K hK => ?_) AllReadyH.nil
                              go_simp
                              refine HW7.out.mono ?_
                              rintro e w8 ⟨rfl, ha⟩
                              have H8 : Hid (Aft X9 w8) := Lib.hid (H7.out.1.trans ha)
                              refine hK.out _ _ (HC7.out _ ha) (fun hHeld1 => ?_)
                              clear hK K ha
                              try simp only [Act.put, List.getElem_toArray, List.getElem_cons_zero, List.getElem_cons_succ, List.setIfInBounds_toArray, List.set_cons_zero, List.set_cons_succ]
                              refine wpAnyH_take (i := 9) (v := ?_) rfl (by kernel_rfl) (by kernel_rfl) (by kernel_rfl) (fun _ _ _ h => h) (Or.inl ⟨by rfl, ?yr3z9⟩) (by assumption) ?qr3z9
                              case yr3z9 => (intro wz hSw; (try dsimp only at hSw); go_simp <;> with_reducible rfl)
                              try simp only [Act.put, List.getElem_toArray, List.getElem_cons_zero, List.getElem_cons_succ, List.setIfInBounds_toArray, List.set_cons_zero, List.set_cons_succ]
                              refine wpAnyH_take (i := 10) (v := ?_) rfl (by kernel_rfl) (by kernel_rfl) (by kernel_rfl) (fun _ _ _ h => h) (Or.inl ⟨by rfl, ?yr3z10⟩) (by assumption) ?qr3z10
                              case yr3z10 => (intro wz hSw; (try dsimp only at hSw); go_simp <;> with_reducible rfl)
                              try simp only [Act.put, List.getElem_toArray, List.getElem_cons_zero, List.getElem_cons_succ, List.setIfInBounds_toArray, List.set_cons_zero, List.set_cons_succ]
                              refine wpAnyH_take (i := 11) (v := ?_) rfl (by kernel_rfl) (by kernel_rfl) (by kernel_rfl) (fun _ _ _ h => h) (Or.inl ⟨by rfl, ?yr3z11⟩) (by assumption) ?qr3z11
                              case yr3z11 => (intro wz hSw; (try dsimp only at hSw); go_simp <;> with_reducible rfl)
                              try simp only [Act.put, List.getElem_toArray, List.getElem_cons_zero, List.getElem_cons_succ, List.setIfInBounds_toArray, List.set_cons_zero, List.set_cons_succ]
                              refine wpAnyH_done (by kernel_rfl) ?_ _
                              clear hHeld0 hHeld1
                              have HR := Lib.hid (HGO.out w8 H8.out)
                              obtain ⟨⟨i0, i1⟩, ⟨k0, k1, k2, k3⟩, c0, c1⟩ := HCZ.out w8 H8.out
                              have z2 : w.heap.size < w8.heap.size := (HC.out _ (HAW.out.trans (H9.out.1.trans H8.out))).2
                              go_wp2_with fail
                              refine (HCO.out w8 H8.out).mono ?_
                              rintro e w9 ⟨rfl, ha⟩
                              have HR := Lib.hid (HGO.out w9 (H8.out.trans ha))
                              clear ha i0 i1 k0 k1 k2 k3 c0 c1 z2 HGO HCZ H9 HXB HCO HC7 H7 HNON HEDG HW7
                              go_wp2_with fail
                              go_roundw
                              case rel => exact ⟨j + 1, by go_num, by omega, HR⟩
                              case measure => simp [intOf]; omega
                · have HR : Hid (Aft wC wr) := Lib.hid HS7.out.1
                  clear HS7
                  go_wp2_with fail
                  go_roundw
                  case rel => exact ⟨k + 1, by go_num, by omega, HR⟩
                  case measure => simp [intOf]; omega
            · have HF := Lib.hid (HE.out wA (HAW.out.trans HS6.out))
              clear HS6 HE
              go_wp2_with fail
              exact HF.out
end Go.Proofs.Ytiiipnfkkdfgbaa.Dg
