/-
  DsgReasons: the walk. Not a statement of the seat.
-/
import Derived.Test.YtcmafmdcgkpagaaHead20
import Derived.Test.YtcmafmdcgkpagaaDgLs
import Derived.Test.YtcmafmdcgkpagaaHead5
import Derived.Test.YtcmafmdcgkpagaaHead23
namespace Go.Proofs.Ytcmafmdcgkpagaa.Dg
open Go.ChangeShapes Go.WideShapes Go.ChangeAt Go.RowKit Base F Tx Hi Off
theorem light_smR {h : Hist} (ht : ∀ t ∈ h.txs, Txn.ok t) (ho : ∀ o ∈ h.ords, Ordr.ok o) (hl : lightB h = true) : HistSm h ∧ h.ords.length ≤ 24 := by
  obtain ⟨h1, h2, h3, h4⟩ := (lightB_iff h).1 hl
  exact ⟨⟨ht, ho, by omega, fun t hm => by have := h3 t hm; omega, fun o hm => by have := h4 o hm; omega⟩, h2⟩
theorem find_thereR {v u : Value} {h : Hist} {id : Int} {w : World} {x : Txn} (hh : HistV w v u h) (hs : HistSm h) (hf : findT h.txs id = some x) : Calls Try.prog 9 #[.agg #[v, u], .int .i64 id] w fun e w' => ∃ sp sc, e = .returned (.tuple #[.agg #[.int .i64 x.id, .bool x.dn, .slice sp x.ops.length sc], .bool true]) ∧ Aft w w' :=
  (find_any id w hh (fun t ht => by have := hs.ops t ht; omega)).mono fun e w' h => by
    obtain ⟨ha, h⟩ := h
    rw [hf] at h
    obtain ⟨sp, sc, he, _⟩ := h
    exact ⟨sp, sc, he, ha⟩
theorem cnt_bd {h : Hist} (hs : HistSm h) (P : Int → Bool) (e : Edg) : cntE h P e ≤ 300000000 := by
  unfold cntE
  split
  · have h1 := ww_le (nxH P h.ords) (fun _ => false) e
    have h2 := sumT_le (nxH P h.ords) (fun q => ((laH P h.txs q.1 q.2 : Nat) : Int)) P h.txs e (fun x hx => by have := hs.ops x hx; omega)
    have := hs.num
    omega
  · omega
theorem tot_take (p : Hvy → Bool) (l : List Hvy) (k : Nat) (hk : k < l.length) : tot p (l.take (k + 1)) = tot p (l.take k) + (if p (l.getD k Hvy.zero) = true then (l.getD k Hvy.zero).n.toNat else 0) := by
  unfold tot
  rw [sm_take _ Hvy.zero l k hk]
theorem tot_bd (p : Hvy → Bool) (l : List Hvy) (hl : l.length ≤ 1000000) (hn : ∀ x ∈ l, x.n ≤ 300000000) (k : Nat) : tot p (l.take k) ≤ 300000000 * 1000000 := by
  unfold tot
  refine Nat.le_trans (sm_le _ 300000000 _ fun x hx => ?_) (Nat.mul_le_mul_left _ ?_)
  · have := hn x (List.mem_of_mem_take hx)
    split <;> omega
  · rw [List.length_take]; omega
theorem filter_take {α : Type} (p : α → Bool) (z : α) (l : List α) (k : Nat) (hk : k < l.length) : ((l.take (k + 1)).filter p).length = ((l.take k).filter p).length + (if p (l.getD k z) = true then 1 else 0) := by
  rw [Tx.take_snoc l z k hk, List.filter_append, List.length_append]
  congr 1
  by_cases h : p (l.getD k z) = true
  · rw [if_pos h, List.filter_cons_of_pos h]; rfl
  · rw [if_neg h, List.filter_cons_of_neg h]; rfl
set_option maxRecDepth 100000 in
set_option maxHeartbeats 32000000 in
theorem reasons {v u : Value} {h : Hist} (w : World) (hh : HistV w v u h) (ht : ∀ t ∈ h.txs, Txn.ok t) (ho : ∀ o ∈ h.ords, Ordr.ok o) : Calls Try.prog 3 #[.agg #[v, u]] w (LivesP w) := by
  obtain ⟨p, c, hv, _⟩ := hh.1.form
  obtain ⟨q, d, hu, _⟩ := hh.2.form
  subst hv hu
  have HSM := Lib.hid (fun e : lightB h = true => light_smR ht ho e)
  have HH := Lib.hid hh
  obtain ⟨n1, hn1⟩ : ∃ n, n = h.txs.length := ⟨_, rfl⟩
  obtain ⟨n2, hn2⟩ : ∃ n, n = h.ords.length := ⟨_, rfl⟩
  rw [← hn1, ← hn2] at HH
  rw [← hn1, ← hn2]
  have HN1 := Lib.hid hn1
  have HN2 := Lib.hid hn2
  clear hh ht ho hn1 hn2
  obtain ⟨X, hX⟩ : ∃ X, X = w.alloc (.cells #[.slice p n1 c, .slice q n2 d] 25) := ⟨_, rfl⟩
  have HA : Hid (Aft w X) := Lib.hid (by rw [hX]; exact Aft.one _)
  have HC : Hid (∀ Z, Aft X Z → (Z.cell? ⟨w.heap.size, 0, none⟩ = some (.slice p n1 c) ∧ Z.cell? ⟨w.heap.size, 1, none⟩ = some (.slice q n2 d)) ∧ w.heap.size < Z.heap.size) := Lib.hid fun Z hZ => by
    have e : X.heap[w.heap.size]? = some (.cells #[.slice p n1 c, .slice q n2 d] 25) := by rw [hX]; exact heap_alloc_at _ _ _ rfl
    have k := (hZ.block _ (heap_lt e)).trans e
    exact ⟨by simp [World.cell?, k], heap_lt k⟩
  have HV : Hid (∀ W, Aft X W → HistV W (.slice p n1 c) (.slice q n2 d) h) := Lib.hid fun W hW => HH.out.below (HA.out.trans hW)
  have HL : Hid (∀ W, Aft X W → Calls Try.prog 6 #[.agg #[.slice p n1 c, .slice q n2 d]] W (BoolNew (lightB h) W)) := Lib.hid fun W hW => rlight_any W (HV.out W hW)
  have HR : Hid (lightB h = true → ∀ W, Aft X W → Calls Try.prog 7 #[.agg #[.slice p n1 c, .slice q n2 d]] W (BoolNew (rightH h) W)) := Lib.hid fun e W hW => Hi.right_any W (HV.out W hW) (sm_ok (HSM.out e).1)
  have HE : Hid (∀ W, Aft X W → LivesP w (.returned (.bool true)) W) := Lib.hid fun W hW => ⟨rfl, HA.out.trans hW⟩
  generalize LivesP w = Post at HE ⊢
  obtain ⟨lb, hlb⟩ : ∃ b, b = lightB h := ⟨_, rfl⟩
  obtain ⟨rr, hrr⟩ : ∃ b, b = rightH h := ⟨_, rfl⟩
  have HRR : Hid (rr = true → rightH h = true) := Lib.hid fun e => by rw [← hrr]; exact e
  rw [← hlb] at HSM HL HR
  rw [← hrr] at HR
  clear hlb hrr
  go_enter Try.func3, Try.ntmps3
  go_upto_region 1 with fail
  rw [← hX]
  clear hX HH
  go_wp2_with fail
  refine (lives X).mono ?_
  rintro e w1 ⟨rfl, ha⟩
  have HA1 := Lib.hid ha
  obtain ⟨⟨c0, c1⟩, hbl⟩ := HC.out w1 ha
  clear ha
  cases lb with
  | false =>
    clear HSM HR
    go_wp2_with fail
    refine (HL.out w1 HA1.out).mono ?_
    rintro e w2 ⟨rfl, ha⟩
    have HF := Lib.hid (HE.out w2 (HA1.out.trans ha))
    clear ha HL HC HV HE c0 c1 hbl HA1
    go_wp2_with fail
    exact HF.out
  | true =>
    have HS := Lib.hid (HSM.out rfl)
    have HR2 := Lib.hid (HR.out rfl)
    clear HSM HR
    go_wp2_with fail
    refine (HL.out w1 HA1.out).mono ?_
    rintro e w2 ⟨rfl, ha⟩
    have HA2 := Lib.hid (HA1.out.trans ha)
    clear ha HL c0 c1 hbl HA1
    obtain ⟨⟨c0, c1⟩, hbl⟩ := HC.out w2 HA2.out
    go_wp2_with fail
    refine (HR2.out w2 HA2.out).mono ?_
    rintro e wR ⟨rfl, ha⟩
    have HAR := Lib.hid (HA2.out.trans ha)
    clear ha HR2 c0 c1 hbl HA2
    cases rr with
    | false =>
      have HF := Lib.hid (HE.out wR HAR.out)
      clear HE HC HV HAR
      go_wp2_with fail
      exact HF.out
    | true =>
      have HRT := Lib.hid (HRR.out rfl)
      have HED : Hid (∀ W, Aft X W → Calls Try.prog 8 #[.agg #[.slice p n1 c, .slice q n2 d]] W (HvP (cntE h fun _ => true) 1000000 W)) := Lib.hid fun W hW => edges_any W (HV.out W hW) HS.out.1 (by have := HS.out.2; omega)
      have HFD : Hid (∀ W, Aft X W → ∀ id x, findT h.txs id = some x → Calls Try.prog 9 #[.agg #[.slice p n1 c, .slice q n2 d], .int .i64 id] W fun e w' => ∃ sp sc, e = .returned (.tuple #[.agg #[.int .i64 x.id, .bool x.dn, .slice sp x.ops.length sc], .bool true]) ∧ Aft W w') := Lib.hid fun W hW id x hf => find_thereR (HV.out W hW) HS.out.1 hf
      have HLT : Hid (∀ W, Aft X W → ∀ o : Opr, Calls Try.prog 11 #[.agg #[.slice p n1 c, .slice q n2 d], .agg #[.bool o.rd, .int .i64 o.k, .int .i64 o.t, .int .i64 o.n]] W (BoolNew (lastB h o) W)) := Lib.hid fun W hW o => last_any W (HV.out W hW) HS.out.1 o
      obtain ⟨⟨c0, c1⟩, hbl⟩ := HC.out wR HAR.out
      clear HRR
      go_wp2_with fail
      refine (HED.out wR HAR.out).mono ?_
      rintro e w3 ⟨vl, l, rfl, hli, hll, hlo, ha⟩
      have HA3 := Lib.hid (HAR.out.trans ha)
      have HLI := Lib.hid hli
      obtain ⟨lp, lc, hvl, hl64, hlc⟩ := (hlo.list (by omega)).open_
      subst hvl
      have HLC := Lib.hid hlc
      clear ha hli hlo hlc HED c0 c1 hbl HAR
      have HK1 : Hid (∀ k, k < l.length → ∃ a b, findT h.txs (l.getD k Hvy.zero).f = some a ∧ findT h.txs (l.getD k Hvy.zero).t = some b ∧ a.dn = true ∧ b.dn = true ∧ (l.getD k Hvy.zero).f ≠ (l.getD k Hvy.zero).t ∧ 1 ≤ (l.getD k Hvy.zero).n ∧ (l.getD k Hvy.zero).n ≤ 300000000) := Lib.hid fun k hk => by
        obtain ⟨h1, h2⟩ := HLI.out.mem (getD_mem' Hvy.zero hk)
        obtain ⟨a, b, ha, hb, hd1, hd2, hne⟩ := cnt_ends h2
        have := cnt_bd HS.out.1 (fun _ => true) (edH (l.getD k Hvy.zero))
        exact ⟨a, b, ha, hb, hd1, hd2, hne, by omega, by omega⟩
      have HLL : Hid (∀ k, 0 < k → k < l.length → Pk.ltE (toE (edH (l.getD (k - 1) Hvy.zero))) (toE (edH (l.getD k Hvy.zero))) = true) := Lib.hid fun k h0 hk => HLI.out.lt h0 hk
      have HTT : Hid (∀ p k, k < l.length → tot p (l.take (k + 1)) = tot p (l.take k) + (if p (l.getD k Hvy.zero) = true then (l.getD k Hvy.zero).n.toNat else 0)) := Lib.hid fun p k hk => tot_take p l k hk
      have HTB : Hid (∀ p k, tot p (l.take k) ≤ 300000000 * 1000000) := Lib.hid fun p k => tot_bd p l hll (fun x hx => by
        obtain ⟨h1, h2⟩ := HLI.out.mem hx
        have := cnt_bd HS.out.1 (fun _ => true) (edH x)
        omega) k
      have HRS : Hid (∀ t ∈ h.txs, tot (isWR t.id) l = (t.ops.filter (rdsB h t)).length) := Lib.hid fun t ht => reads_sum HRT.out HLI.out ht
      have HWS : Hid (∀ o ∈ h.ords, 1 + tot (isWW o.key) l = o.txs.length) := Lib.hid fun o ho => ww_sum HRT.out HLI.out ho
      have HNB : Hid (∀ k, k < l.length → 0 ≤ (l.getD k Hvy.zero).n ∧ (l.getD k Hvy.zero).n ≤ 300000000) := Lib.hid fun k hk => by
        obtain ⟨a, b, _, _, _, _, _, h1, h2⟩ := HK1.out k hk
        exact ⟨by omega, h2⟩
      clear HLI
      obtain ⟨ln, hln⟩ : ∃ n, n = l.length := ⟨_, rfl⟩
      have HLN := Lib.hid hln
      rw [← hln] at hll hl64 HLC HK1 HLL HTT HNB ⊢
      clear hln
      have HW0 : Hid (Aft w3 w3) := Lib.hid (Aft.refl _)
      go_wp2_with fail
      go_loopw [37] (fun s37 wr => ∃ k : Nat, s37 = .int .i64 (k : Int) ∧ k ≤ ln ∧ Hid (Aft w3 wr)) (fun s37 _ => ln - (intOf s37).toNat)
      case atStart => exact ⟨0, rfl, Nat.zero_le _, HW0⟩
      case round =>
        clear HW0
        obtain ⟨k, rfl, hk, HW⟩ := hrel
        obtain ⟨wB, hwB⟩ : ∃ wB, wB = wr := ⟨_, rfl⟩
        subst hwB
        by_cases hlt : k < ln
        · obtain ⟨g, o, e1, _, hg, c0, c1, c2, c3, c4⟩ := HLC.out k hlt
          have c0 := HW.out.cell hg c0
          have c1 := HW.out.cell hg c1
          have c2 := HW.out.cell hg c2
          have c3 := HW.out.cell hg c3
          have c4 := HW.out.cell hg c4
          have hg := Nat.lt_of_lt_of_le hg HW.out.size
          have hkI : (k : Int) < (ln : Int) := by omega
          have HKX := Lib.hid (HK1.out k hlt)
          have HPV : Hid (0 < k → ∃ y : Hvy, (w3.cell? ⟨g, o + (k - 1) * 5, none⟩ = some (.int .i64 y.f) ∧ w3.cell? ⟨g, o + (k - 1) * 5 + 1, none⟩ = some (.int .i64 y.t) ∧ w3.cell? ⟨g, o + (k - 1) * 5 + 2, none⟩ = some (.int .i64 y.kd) ∧ w3.cell? ⟨g, o + (k - 1) * 5 + 3, none⟩ = some (.int .i64 y.k)) ∧ Pk.ltE (toE (edH y)) (toE (edH (l.getD k Hvy.zero))) = true) := Lib.hid fun h0 => by
            obtain ⟨g', o', e2, _, hg', f0, f1, f2, f3, _⟩ := HLC.out (k - 1) (by omega)
            rw [e1] at e2
            injection e2 with e2
            injection e2 with e3 e4
            subst e3 e4
            exact ⟨l.getD (k - 1) Hvy.zero, ⟨f0, f1, f2, f3⟩, HLL.out k h0 hlt⟩
          subst e1
          generalize l.getD k Hvy.zero = x at c0 c1 c2 c3 c4 HKX HPV
          obtain ⟨x0, x1, x2, x3, x4⟩ := x
          dsimp only at c0 c1 c2 c3 c4 HKX
          obtain ⟨Y1, hY1⟩ : ∃ Z, Z = wB.alloc (.cells #[.int .i64 x0, .int .i64 x1, .int .i64 x2, .int .i64 x3, .int .i64 x4] 33) := ⟨_, rfl⟩
          have H1 : Hid (Aft w3 Y1 ∧ Y1.heap[wB.heap.size]? = some (.cells #[.int .i64 x0, .int .i64 x1, .int .i64 x2, .int .i64 x3, .int .i64 x4] 33)) := Lib.hid (by rw [hY1]; exact ⟨HW.out.lay _, heap_alloc_at _ _ _ rfl⟩)
          have HZ1 : Hid (∀ Z, Aft Y1 Z → ((Z.cell? ⟨w.heap.size, 0, none⟩ = some (.slice p n1 c) ∧ Z.cell? ⟨w.heap.size, 1, none⟩ = some (.slice q n2 d)) ∧ w.heap.size < Z.heap.size) ∧ (Z.cell? ⟨wB.heap.size, 0, none⟩ = some (.int .i64 x0) ∧ Z.cell? ⟨wB.heap.size, 1, none⟩ = some (.int .i64 x1) ∧ Z.cell? ⟨wB.heap.size, 2, none⟩ = some (.int .i64 x2) ∧ Z.cell? ⟨wB.heap.size, 3, none⟩ = some (.int .i64 x3) ∧ Z.cell? ⟨wB.heap.size, 4, none⟩ = some (.int .i64 x4)) ∧ wB.heap.size < Z.heap.size) := Lib.hid fun Z hZ => by
            have k0 := (hZ.block _ (heap_lt H1.out.2)).trans H1.out.2
            refine ⟨HC.out Z (HA3.out.trans (H1.out.1.trans hZ)), ?_, heap_lt k0⟩
            simp [World.cell?, k0]
          obtain ⟨a, b, hfa, hfb, hda, hdb, hne, hn1', _⟩ := HKX.out
          have HFA := Lib.hid (HFD.out Y1 (HA3.out.trans H1.out.1) x0 a hfa)
          have HFB : Hid (∀ W, Aft Y1 W → _) := Lib.hid fun W hW => HFD.out W (HA3.out.trans (H1.out.1.trans hW)) x1 b hfb
          rw [hda] at HFA
          rw [hdb] at HFB
          have hnb : (x0 == x1) = false := by simp [hne]
          have hcb : decide (x4 < 1) = false := by simp; omega
          obtain ⟨⟨⟨k0, k1⟩, k9⟩, ⟨m0, m1, m2, m3, m4⟩, m9⟩ := HZ1.out Y1 (Aft.refl _)
          generalize a.ops.length = an at HFA
          generalize b.ops.length = bn at HFB
          clear HW HKX hfa hfb hda hdb hne hn1'
          go_upto_region 9 with fail
          rw [← hY1]
          clear hY1 c0 c1 c2 c3 c4
          go_wp2_with fail
          refine HFA.out.mono ?_
          rintro e w5 ⟨sp5, sc5, rfl, ha5⟩
          obtain ⟨Y2, hY2⟩ : ∃ Z, Z = w5.alloc (.cells #[.int .i64 a.id, .bool true, .slice sp5 an sc5] 36) := ⟨_, rfl⟩
          have H2 : Hid (Aft Y1 Y2 ∧ Y2.heap[w5.heap.size]? = some (.cells #[.int .i64 a.id, .bool true, .slice sp5 an sc5] 36)) := Lib.hid (by rw [hY2]; exact ⟨ha5.lay _, heap_alloc_at _ _ _ rfl⟩)
          have HFB2 := Lib.hid (HFB.out Y2 H2.out.1)
          clear k0 k1 k9 m0 m1 m2 m3 m4 m9 ha5 HFA HFB
          obtain ⟨⟨⟨k0, k1⟩, k9⟩, ⟨m0, m1, m2, m3, m4⟩, m9⟩ := HZ1.out Y2 H2.out.1
          go_upto_region 10 with fail
          rw [← hY2]
          clear hY2
          go_wp2_with fail
          refine HFB2.out.mono ?_
          rintro e w6 ⟨sp6, sc6, rfl, ha6⟩
          obtain ⟨Y3, hY3⟩ : ∃ Z, Z = w6.alloc (.cells #[.int .i64 b.id, .bool true, .slice sp6 bn sc6] 36) := ⟨_, rfl⟩
          obtain ⟨D, hD⟩ : ∃ D, D = Y3.drew := ⟨_, rfl⟩
          have H3 : Hid (Aft Y2 D ∧ D.heap[w6.heap.size]? = some (.cells #[.int .i64 b.id, .bool true, .slice sp6 bn sc6] 36)) := Lib.hid (by rw [hD, hY3]; exact ⟨(ha6.lay _).drew 1, heap_alloc_at _ _ _ rfl⟩)
          have HAD : Hid (Aft w3 D) := Lib.hid (H1.out.1.trans (H2.out.1.trans H3.out.1))
          have HCA : Hid (∀ Z, Aft D Z → (Z.cell? ⟨wB.heap.size, 0, none⟩ = some (.int .i64 x0) ∧ Z.cell? ⟨wB.heap.size, 1, none⟩ = some (.int .i64 x1) ∧ Z.cell? ⟨wB.heap.size, 2, none⟩ = some (.int .i64 x2) ∧ Z.cell? ⟨wB.heap.size, 3, none⟩ = some (.int .i64 x3) ∧ Z.cell? ⟨wB.heap.size, 4, none⟩ = some (.int .i64 x4)) ∧ Z.cell? ⟨w5.heap.size, 1, none⟩ = some (.bool true) ∧ Z.cell? ⟨w6.heap.size, 1, none⟩ = some (.bool true)) := Lib.hid fun Z hZ => by
            have e2 := ((H3.out.1.trans hZ).block _ (heap_lt H2.out.2)).trans H2.out.2
            have e3 := (hZ.block _ (heap_lt H3.out.2)).trans H3.out.2
            exact ⟨(HZ1.out Z (H2.out.1.trans (H3.out.1.trans hZ))).2.1, by simp [World.cell?, e2], by simp [World.cell?, e3]⟩
          clear k0 k1 k9 m0 m1 m2 m3 m4 m9 ha6 HFB2
          by_cases h0 : 0 < k
          · obtain ⟨y, ⟨f0, f1, f2, f3⟩, hlt0⟩ := HPV.out h0
            obtain ⟨y0, y1, y2, y3, y4⟩ := y
            dsimp only at f0 f1 f2 f3
            obtain ⟨i, hi⟩ : ∃ i, i = k - 1 := ⟨_, rfl⟩
            rw [← hi] at f0 f1 f2 f3
            have HCB : Hid (∀ Z, Aft D Z → ((Z.cell? ⟨wB.heap.size, 0, none⟩ = some (.int .i64 x0) ∧ Z.cell? ⟨wB.heap.size, 1, none⟩ = some (.int .i64 x1) ∧ Z.cell? ⟨wB.heap.size, 2, none⟩ = some (.int .i64 x2) ∧ Z.cell? ⟨wB.heap.size, 3, none⟩ = some (.int .i64 x3) ∧ Z.cell? ⟨wB.heap.size, 4, none⟩ = some (.int .i64 x4)) ∧ Z.cell? ⟨w5.heap.size, 1, none⟩ = some (.bool true) ∧ Z.cell? ⟨w6.heap.size, 1, none⟩ = some (.bool true)) ∧ (Z.cell? ⟨g, o + i * 5, none⟩ = some (.int .i64 y0) ∧ Z.cell? ⟨g, o + i * 5 + 1, none⟩ = some (.int .i64 y1) ∧ Z.cell? ⟨g, o + i * 5 + 2, none⟩ = some (.int .i64 y2) ∧ Z.cell? ⟨g, o + i * 5 + 3, none⟩ = some (.int .i64 y3))) := Lib.hid fun Z hZ => by
              have hz := HAD.out.trans hZ
              have hgl : ∀ j vv, w3.cell? ⟨g, j, none⟩ = some vv → Z.cell? ⟨g, j, none⟩ = some vv := fun j vv hj => hz.cell (World.block_lt_of_cell? _ _ hj) hj
              exact ⟨HCA.out Z hZ, hgl _ _ f0, hgl _ _ f1, hgl _ _ f2, hgl _ _ f3⟩
            have HLC := Lib.hid (Pk.less_any (y0, y1, y2, y3) (x0, x1, x2, x3) D)
            have hlt0 : Pk.ltE (y0, y1, y2, y3) (x0, x1, x2, x3) = true := hlt0
            rw [hlt0] at HLC
            have HLC : Hid (Calls Try.prog 10 #[.agg #[.int .i64 y0, .int .i64 y1, .int .i64 y2, .int .i64 y3], .agg #[.int .i64 x0, .int .i64 x1, .int .i64 x2, .int .i64 x3]] D fun e w' => e = .returned (.bool true) ∧ Pk.Gr D w') := HLC
            have hw : IntKind.i64.wrap ((k : Int) - 1) = (i : Int) := by rw [IntKind.wrap_i64] <;> omega
            have hiI : (i : Int) < (ln : Int) := by omega
            have hgt1 : decide ((0 : Int) < (k : Int)) = true := decide_eq_true (by omega)
            have hgt2 : decide (0 < k) = true := decide_eq_true h0
            have H0 := Lib.hid (HCB.out D (Aft.refl _))
            clear HPV hlt0 f0 f1 f2 f3 H1 H2 H3 HZ1 HCA h0 hi hg
            go_upto_region 11 with fail
            rw [← hY3]
            clear hY3
            refine wp_region_held_drew (S := fun Z => ((Z.cell? ⟨wB.heap.size, 0, none⟩ = some (.int .i64 x0) ∧ Z.cell? ⟨wB.heap.size, 1, none⟩ = some (.int .i64 x1) ∧ Z.cell? ⟨wB.heap.size, 2, none⟩ = some (.int .i64 x2) ∧ Z.cell? ⟨wB.heap.size, 3, none⟩ = some (.int .i64 x3) ∧ Z.cell? ⟨wB.heap.size, 4, none⟩ = some (.int .i64 x4)) ∧ Z.cell? ⟨w5.heap.size, 1, none⟩ = some (.bool true) ∧ Z.cell? ⟨w6.heap.size, 1, none⟩ = some (.bool true)) ∧ (Z.cell? ⟨g, o + i * 5, none⟩ = some (.int .i64 y0) ∧ Z.cell? ⟨g, o + i * 5 + 1, none⟩ = some (.int .i64 y1) ∧ Z.cell? ⟨g, o + i * 5 + 2, none⟩ = some (.int .i64 y2) ∧ Z.cell? ⟨g, o + i * 5 + 3, none⟩ = some (.int .i64 y3))) (by kernel_rfl) (hD ▸ H0.out) (fun hHeld0 => ?_)
            rw [← hD] at hHeld0 ⊢
            clear hD
            refine wpAnyH_take (i := 0) (v := ?_) rfl (by kernel_rfl) (by kernel_rfl) (by kernel_rfl) (fun _ _ _ h => h) (Or.inl ⟨by rfl, ?yrb0⟩) (by assumption) ?qrb0
            case yrb0 => (intro wz hSw; (try dsimp only at hSw); go_simp <;> with_reducible rfl)
            try simp only [Act.put, List.getElem_toArray, List.getElem_cons_zero, List.setIfInBounds_toArray, List.set_cons_zero, List.set_cons_succ]
            refine wpAnyH_take (i := 1) (v := ?_) rfl (by kernel_rfl) (by kernel_rfl) (by kernel_rfl) (fun _ _ _ h => h) (Or.inl ⟨by rfl, ?yrb1⟩) (by assumption) ?qrb1
            case yrb1 => (intro wz hSw; (try dsimp only at hSw); go_simp <;> with_reducible rfl)
            try simp only [Act.put, List.getElem_toArray, List.getElem_cons_zero, List.getElem_cons_succ, List.setIfInBounds_toArray, List.set_cons_zero, List.set_cons_succ]
            refine wpAnyH_take (i := 2) (v := ?_) rfl (by kernel_rfl) (by kernel_rfl) (by kernel_rfl) (fun _ _ _ h => h) (Or.inl ⟨by rfl, ?yrb2⟩) (by assumption) ?qrb2
            case yrb2 => (intro wz hSw; (try dsimp only at hSw); go_simp <;> with_reducible rfl)
            try simp only [Act.put, List.getElem_toArray, List.getElem_cons_zero, List.getElem_cons_succ, List.setIfInBounds_toArray, List.set_cons_zero, List.set_cons_succ]
            refine wpAnyH_take (i := 3) (v := ?_) rfl (by kernel_rfl) (by kernel_rfl) (by kernel_rfl) (fun _ _ _ h => h) (Or.inl ⟨by rfl, ?yrb3⟩) (by assumption) ?qrb3
            case yrb3 => (intro wz hSw; (try dsimp only at hSw); go_simp <;> with_reducible rfl)
            try simp only [Act.put, List.getElem_toArray, List.getElem_cons_zero, List.getElem_cons_succ, List.setIfInBounds_toArray, List.set_cons_zero, List.set_cons_succ]
            refine wpAnyH_take (i := 4) (v := ?_) rfl (by kernel_rfl) (by kernel_rfl) (by kernel_rfl) (fun _ _ _ h => h) (Or.inl ⟨by rfl, ?yrb4⟩) (by assumption) ?qrb4
            case yrb4 => (intro wz hSw; (try dsimp only at hSw); go_simp <;> with_reducible rfl)
            try simp only [Act.put, List.getElem_toArray, List.getElem_cons_zero, List.getElem_cons_succ, List.setIfInBounds_toArray, List.set_cons_zero, List.set_cons_succ]
            refine wpAnyH_take (i := 5) (v := ?_) rfl (by kernel_rfl) (by kernel_rfl) (by kernel_rfl) (fun _ _ _ h => h) (Or.inl ⟨by rfl, ?yrb5⟩) (by assumption) ?qrb5
            case yrb5 => (intro wz hSw; (try dsimp only at hSw); go_simp <;> with_reducible rfl)
            try simp only [Act.put, List.getElem_toArray, List.getElem_cons_zero, List.getElem_cons_succ, List.setIfInBounds_toArray, List.set_cons_zero, List.set_cons_succ]
            refine wpAnyH_take (i := 6) (v := ?_) rfl (by kernel_rfl) (by kernel_rfl) (by kernel_rfl) (fun _ _ _ h => h) (Or.inl ⟨by rfl, ?yrb6⟩) (by assumption) ?qrb6
            case yrb6 => (intro wz hSw; (try dsimp only at hSw); go_simp <;> with_reducible rfl)
            try simp only [Act.put, List.getElem_toArray, List.getElem_cons_zero, List.getElem_cons_succ, List.setIfInBounds_toArray, List.set_cons_zero, List.set_cons_succ]
            refine wpAnyH_take (i := 7) (v := ?_) rfl (by kernel_rfl) (by kernel_rfl) (by kernel_rfl) (fun _ _ _ h => h) (Or.inl ⟨by rfl, ?yrb7⟩) (by assumption) ?qrb7
            case yrb7 => (intro wz hSw; (try dsimp only at hSw); go_simp <;> with_reducible rfl)
            try simp only [Act.put, List.getElem_toArray, List.getElem_cons_zero, List.getElem_cons_succ, List.setIfInBounds_toArray, List.set_cons_zero, List.set_cons_succ]
            refine wpAnyH_take (i := 8) (v := ?_) rfl (by kernel_rfl) (by kernel_rfl) (by kernel_rfl) (fun _ _ _ h => h) (Or.inl ⟨by rfl, ?yrb8⟩) (by assumption) ?qrb8
            case yrb8 => (intro wz hSw; (try dsimp only at hSw); go_simp <;> with_reducible rfl)
            try simp only [Act.put, List.getElem_toArray, List.getElem_cons_zero, List.getElem_cons_succ, List.setIfInBounds_toArray, List.set_cons_zero, List.set_cons_succ]
            refine wpAnyH_take (i := 9) (v := ?_) rfl (by kernel_rfl) (by kernel_rfl) (by kernel_rfl) (fun _ _ _ h => h) (Or.inl ⟨by rfl, ?yrb9⟩) (by assumption) ?qrb9
            case yrb9 => (intro wz hSw; (try dsimp only at hSw); go_simp <;> with_reducible rfl)
            try simp only [Act.put, List.getElem_toArray, List.getElem_cons_zero, List.getElem_cons_succ, List.setIfInBounds_toArray, List.set_cons_zero, List.set_cons_succ]
            refine wpAnyH_take (i := 10) (v := ?_) rfl (by kernel_rfl) (by kernel_rfl) (by kernel_rfl) (fun _ _ _ h => h) (Or.inl ⟨by rfl, ?yrb10⟩) (by assumption) ?qrb10
            case yrb10 => (intro wz hSw; (try dsimp only at hSw); go_simp <;> with_reducible rfl)
            try simp only [Act.put, List.getElem_toArray, List.getElem_cons_zero, List.getElem_cons_succ, List.setIfInBounds_toArray, List.set_cons_zero, List.set_cons_succ]
            refine wpAnyH_take (i := 11) (v := ?_) rfl (by kernel_rfl) (by kernel_rfl) (by kernel_rfl) (fun _ _ _ h => h) (Or.inl ⟨by rfl, ?yrb11⟩) (by assumption) ?qrb11
            case yrb11 => (intro wz hSw; (try dsimp only at hSw); go_simp <;> with_reducible rfl)
            try simp only [Act.put, List.getElem_toArray, List.getElem_cons_zero, List.getElem_cons_succ, List.setIfInBounds_toArray, List.set_cons_zero, List.set_cons_succ]
            refine wpAnyH_take (i := 12) (v := ?_) rfl (by kernel_rfl) (by kernel_rfl) (by kernel_rfl) (fun _ _ _ h => h) (Or.inl ⟨by rfl, ?yrb12⟩) (by assumption) ?qrb12
            case yrb12 => (intro wz hSw; (try dsimp only at hSw); go_simp <;> with_reducible rfl)
            try simp only [Act.put, List.getElem_toArray, List.getElem_cons_zero, List.getElem_cons_succ, List.setIfInBounds_toArray, List.set_cons_zero, List.set_cons_succ]
            refine wpAnyH_take (i := 13) (v := ?_) rfl (by kernel_rfl) (by kernel_rfl) (by kernel_rfl) (fun _ _ _ h => h) (Or.inl ⟨by rfl, ?yrb13⟩) (by assumption) ?qrb13
            case yrb13 => (intro wz hSw; (try dsimp only at hSw); go_simp <;> with_reducible rfl)
            try simp only [Act.put, List.getElem_toArray, List.getElem_cons_zero, List.getElem_cons_succ, List.setIfInBounds_toArray, List.set_cons_zero, List.set_cons_succ]
            refine wpAnyH_take (i := 14) (v := ?_) rfl (by kernel_rfl) (by kernel_rfl) (by kernel_rfl) (fun _ _ _ h => h) (Or.inl ⟨by rfl, ?yrb14⟩) (by assumption) ?qrb14
            case yrb14 => (intro wz hSw; (try dsimp only at hSw); go_simp <;> with_reducible rfl)
            try simp only [Act.put, List.getElem_toArray, List.getElem_cons_zero, List.getElem_cons_succ, List.setIfInBounds_toArray, List.set_cons_zero, List.set_cons_succ]
            refine wpAnyH_take (i := 15) (v := ?_) rfl (by kernel_rfl) (by kernel_rfl) (by kernel_rfl) (fun _ _ _ h => h) (Or.inl ⟨by rfl, ?yrb15⟩) (by assumption) ?qrb15
            case yrb15 => (intro wz hSw; (try dsimp only at hSw); go_simp <;> with_reducible rfl)
            try simp only [Act.put, List.getElem_toArray, List.getElem_cons_zero, List.getElem_cons_succ, List.setIfInBounds_toArray, List.set_cons_zero, List.set_cons_succ]
            refine wpAnyH_take (i := 16) (v := ?_) rfl (by kernel_rfl) (by kernel_rfl) (by kernel_rfl) (fun _ _ _ h => h) (Or.inl ⟨by rfl, ?yrb16⟩) (by assumption) ?qrb16
            case yrb16 => (intro wz hSw; (try dsimp only at hSw); go_simp <;> with_reducible rfl)
            try simp only [Act.put, List.getElem_toArray, List.getElem_cons_zero, List.getElem_cons_succ, List.setIfInBounds_toArray, List.set_cons_zero, List.set_cons_succ]
            refine wpAnyH_take (i := 17) (v := ?_) rfl (by kernel_rfl) (by kernel_rfl) (by kernel_rfl) (fun _ _ _ h => h) (Or.inl ⟨by rfl, ?yrb17⟩) (by assumption) ?qrb17
            case yrb17 => (intro wz hSw; (try dsimp only at hSw); go_simp <;> with_reducible rfl)
            try simp only [Act.put, List.getElem_toArray, List.getElem_cons_zero, List.getElem_cons_succ, List.setIfInBounds_toArray, List.set_cons_zero, List.set_cons_succ]
            refine wpAnyH_take (i := 18) (v := ?_) rfl (by kernel_rfl) (by kernel_rfl) (by kernel_rfl) (fun _ _ _ h => h) (Or.inl ⟨by rfl, ?yrb18⟩) (by assumption) ?qrb18
            case yrb18 => (intro wz hSw; (try dsimp only at hSw); go_simp <;> with_reducible rfl)
            try simp only [Act.put, List.getElem_toArray, List.getElem_cons_zero, List.getElem_cons_succ, List.setIfInBounds_toArray, List.set_cons_zero, List.set_cons_succ]
            refine wpAnyH_take (i := 19) (v := ?_) rfl (by kernel_rfl) (by kernel_rfl) (by kernel_rfl) (fun _ _ _ h => h) (Or.inl ⟨by rfl, ?yrb19⟩) (by assumption) ?qrb19
            case yrb19 => (intro wz hSw; (try dsimp only at hSw); go_simp <;> with_reducible rfl)
            try simp only [Act.put, List.getElem_toArray, List.getElem_cons_zero, List.getElem_cons_succ, List.setIfInBounds_toArray, List.set_cons_zero, List.set_cons_succ]
            refine wpAnyH_take (i := 20) (v := ?_) rfl (by kernel_rfl) (by kernel_rfl) (by kernel_rfl) (fun _ _ _ h => h) (Or.inl ⟨by rfl, ?yrb20⟩) (by assumption) ?qrb20
            case yrb20 => (intro wz hSw; (try dsimp only at hSw); go_simp <;> with_reducible rfl)
            try simp only [Act.put, List.getElem_toArray, List.getElem_cons_zero, List.getElem_cons_succ, List.setIfInBounds_toArray, List.set_cons_zero, List.set_cons_succ]
            refine wpAnyH_take (i := 21) (v := ?_) rfl (by kernel_rfl) (by kernel_rfl) (by kernel_rfl) (fun _ _ _ h => h) (Or.inl ⟨by rfl, ?yrb21⟩) (by assumption) ?qrb21
            case yrb21 => (intro wz hSw; (try dsimp only at hSw); go_simp <;> with_reducible rfl)
            try simp only [Act.put, List.getElem_toArray, List.getElem_cons_zero, List.getElem_cons_succ, List.setIfInBounds_toArray, List.set_cons_zero, List.set_cons_succ]
            refine wpAnyH_take (i := 22) (v := ?_) rfl (by kernel_rfl) (by kernel_rfl) (by kernel_rfl) (fun _ _ _ h => h) (Or.inl ⟨by rfl, ?yrb22⟩) (by assumption) ?qrb22
            case yrb22 => (intro wz hSw; (try dsimp only at hSw); go_simp <;> with_reducible rfl)
            try simp only [Act.put, List.getElem_toArray, List.getElem_cons_zero, List.getElem_cons_succ, List.setIfInBounds_toArray, List.set_cons_zero, List.set_cons_succ]
            refine wpAnyH_take (i := 23) (v := ?_) rfl (by kernel_rfl) (by kernel_rfl) (by kernel_rfl) (fun _ _ _ h => h) (Or.inl ⟨by rfl, ?yrb23⟩) (by assumption) ?qrb23
            case yrb23 => (intro wz hSw; (try dsimp only at hSw); go_simp <;> with_reducible rfl)
            try simp only [Act.put, List.getElem_toArray, List.getElem_cons_zero, List.getElem_cons_succ, List.setIfInBounds_toArray, List.set_cons_zero, List.set_cons_succ]
            refine wpAnyH_take (i := 24) (v := ?_) rfl (by kernel_rfl) (by kernel_rfl) (by kernel_rfl) (fun _ _ _ h => h) (Or.inl ⟨by rfl, ?yrb24⟩) (by assumption) ?qrb24
            case yrb24 => (intro wz hSw; (try dsimp only at hSw); go_simp <;> with_reducible rfl)
            try simp only [Act.put, List.getElem_toArray, List.getElem_cons_zero, List.getElem_cons_succ, List.setIfInBounds_toArray, List.set_cons_zero, List.set_cons_succ]
            refine wpAnyH_take (i := 25) (v := ?_) rfl (by kernel_rfl) (by kernel_rfl) (by kernel_rfl) (fun _ _ _ h => h) (Or.inl ⟨by rfl, ?yrb25⟩) (by assumption) ?qrb25
            case yrb25 => (intro wz hSw; (try dsimp only at hSw); go_simp <;> with_reducible rfl)
            try simp only [Act.put, List.getElem_toArray, List.getElem_cons_zero, List.getElem_cons_succ, List.setIfInBounds_toArray, List.set_cons_zero, List.set_cons_succ]
            refine wpAnyH_take (i := 26) (v := ?_) rfl (by kernel_rfl) (by kernel_rfl) (by kernel_rfl) (fun _ _ _ h => h) (Or.inl ⟨by rfl, ?yrb26⟩) (by assumption) ?qrb26
            case yrb26 => (intro wz hSw; (try dsimp only at hSw); go_simp <;> with_reducible rfl)
            try simp only [Act.put, List.getElem_toArray, List.getElem_cons_zero, List.getElem_cons_succ, List.setIfInBounds_toArray, List.set_cons_zero, List.set_cons_succ]
            refine wpAnyH_take (i := 27) (v := ?_) rfl (by kernel_rfl) (by kernel_rfl) (by kernel_rfl) (fun _ _ _ h => h) (Or.inl ⟨by rfl, ?yrb27⟩) (by assumption) ?qrb27
            case yrb27 => (intro wz hSw; (try dsimp only at hSw); go_simp <;> with_reducible rfl)
            try simp only [Act.put, List.getElem_toArray, List.getElem_cons_zero, List.getElem_cons_succ, List.setIfInBounds_toArray, List.set_cons_zero, List.set_cons_succ]
            refine wpAnyH_take (i := 28) (v := ?_) rfl (by kernel_rfl) (by kernel_rfl) (by kernel_rfl) (fun _ _ _ h => h) (Or.inl ⟨by rfl, ?yrb28⟩) (by assumption) ?qrb28
            case yrb28 => (intro wz hSw; (try dsimp only at hSw); go_simp <;> with_reducible rfl)
            try simp only [Act.put, List.getElem_toArray, List.getElem_cons_zero, List.getElem_cons_succ, List.setIfInBounds_toArray, List.set_cons_zero, List.set_cons_succ]
            refine wpAnyH_take (i := 29) (v := ?_) rfl (by kernel_rfl) (by kernel_rfl) (by kernel_rfl) (fun _ _ _ h => h) (Or.inl ⟨by rfl, ?yrb29⟩) (by assumption) ?qrb29
            case yrb29 => (intro wz hSw; (try dsimp only at hSw); go_simp <;> with_reducible rfl)
            try simp only [Act.put, List.getElem_toArray, List.getElem_cons_zero, List.getElem_cons_succ, List.setIfInBounds_toArray, List.set_cons_zero, List.set_cons_succ]
            refine wpAnyH_take (i := 30) (v := ?_) rfl (by kernel_rfl) (by kernel_rfl) (by kernel_rfl) (fun _ _ _ h => h) (Or.inl ⟨by rfl, ?yrb30⟩) (by assumption) ?qrb30
            case yrb30 => (intro wz hSw; (try dsimp only at hSw); go_simp <;> with_reducible rfl)
            try simp only [Act.put, List.getElem_toArray, List.getElem_cons_zero, List.getElem_cons_succ, List.setIfInBounds_toArray, List.set_cons_zero, List.set_cons_succ]
            refine wpAnyH_take (i := 31) (v := ?_) rfl (by kernel_rfl) (by kernel_rfl) (by kernel_rfl) (fun _ _ _ h => h) (Or.inl ⟨by rfl, ?yrb31⟩) (by assumption) ?qrb31
            case yrb31 => (intro wz hSw; (try dsimp only at hSw); go_simp <;> with_reducible rfl)
            try simp only [Act.put, List.getElem_toArray, List.getElem_cons_zero, List.getElem_cons_succ, List.setIfInBounds_toArray, List.set_cons_zero, List.set_cons_succ]
            refine wpAnyH_take (i := 32) (v := ?_) rfl (by kernel_rfl) (by kernel_rfl) (by kernel_rfl) (fun _ _ _ h => h) (Or.inl ⟨by rfl, ?yrb32⟩) (by assumption) ?qrb32
            case yrb32 => (intro wz hSw; (try dsimp only at hSw); go_simp <;> with_reducible rfl)
            try simp only [Act.put, List.getElem_toArray, List.getElem_cons_zero, List.getElem_cons_succ, List.setIfInBounds_toArray, List.set_cons_zero, List.set_cons_succ]
            refine wpAnyH_take (i := 33) (v := ?_) rfl (by kernel_rfl) (by kernel_rfl) (by kernel_rfl) (fun _ _ _ h => h) (Or.inl ⟨by rfl, ?yrb33⟩) (by assumption) ?qrb33
            case yrb33 => (intro wz hSw; (try dsimp only at hSw); go_simp <;> with_reducible rfl)
            try simp only [Act.put, List.getElem_toArray, List.getElem_cons_zero, List.getElem_cons_succ, List.setIfInBounds_toArray, List.set_cons_zero, List.set_cons_succ]
            refine wpAnyH_take (i := 34) (v := ?_) rfl (by kernel_rfl) (by kernel_rfl) (by kernel_rfl) (fun _ _ _ h => h) (Or.inl ⟨by rfl, ?yrb34⟩) (by assumption) ?qrb34
            case yrb34 => (intro wz hSw; (try dsimp only at hSw); go_simp <;> with_reducible rfl)
            try simp only [Act.put, List.getElem_toArray, List.getElem_cons_zero, List.getElem_cons_succ, List.setIfInBounds_toArray, List.set_cons_zero, List.set_cons_succ]
            refine wpAnyH_take (i := 35) (v := ?_) rfl (by kernel_rfl) (by kernel_rfl) (by kernel_rfl) (fun _ _ _ h => h) (Or.inl ⟨by rfl, ?yrb35⟩) (by assumption) ?qrb35
            case yrb35 => (intro wz hSw; (try dsimp only at hSw); go_simp <;> with_reducible rfl)
            try simp only [Act.put, List.getElem_toArray, List.getElem_cons_zero, List.getElem_cons_succ, List.setIfInBounds_toArray, List.set_cons_zero, List.set_cons_succ]
            refine wpAnyH_take (i := 36) (v := ?_) rfl (by kernel_rfl) (by kernel_rfl) (by kernel_rfl) (fun _ _ _ h => h) (Or.inl ⟨by rfl, ?yrb36⟩) (by assumption) ?qrb36
            case yrb36 => (intro wz hSw; (try dsimp only at hSw); go_simp <;> with_reducible rfl)
            try simp only [Act.put, List.getElem_toArray, List.getElem_cons_zero, List.getElem_cons_succ, List.setIfInBounds_toArray, List.set_cons_zero, List.set_cons_succ]
            refine wpAnyH_take (i := 37) (v := ?_) rfl (by kernel_rfl) (by kernel_rfl) (by kernel_rfl) (fun _ _ _ h => h) (Or.inl ⟨by rfl, ?yrb37⟩) (by assumption) ?qrb37
            case yrb37 => (intro wz hSw; (try dsimp only at hSw); go_simp <;> with_reducible rfl)
            try simp only [Act.put, List.getElem_toArray, List.getElem_cons_zero, List.getElem_cons_succ, List.setIfInBounds_toArray, List.set_cons_zero, List.set_cons_succ]
            refine wpAnyH_take (i := 38) (v := ?_) rfl (by kernel_rfl) (by kernel_rfl) (by kernel_rfl) (fun _ _ _ h => h) (Or.inl ⟨by rfl, ?yrb38⟩) (by assumption) ?qrb38
            case yrb38 => (intro wz hSw; (try dsimp only at hSw); go_simp <;> with_reducible rfl)
            try simp only [Act.put, List.getElem_toArray, List.getElem_cons_zero, List.getElem_cons_succ, List.setIfInBounds_toArray, List.set_cons_zero, List.set_cons_succ]
            refine wpAnyH_take (i := 39) (v := ?_) rfl (by kernel_rfl) (by kernel_rfl) (by kernel_rfl) (fun _ _ _ h => h) (Or.inl ⟨by rfl, ?yrb39⟩) (by assumption) ?qrb39
            case yrb39 => (intro wz hSw; (try dsimp only at hSw); go_simp <;> with_reducible rfl)
            try simp only [Act.put, List.getElem_toArray, List.getElem_cons_zero, List.getElem_cons_succ, List.setIfInBounds_toArray, List.set_cons_zero, List.set_cons_succ]
            refine wpAnyH_take (i := 40) (v := ?_) rfl (by kernel_rfl) (by kernel_rfl) (by kernel_rfl) (fun _ _ _ h => h) (Or.inl ⟨by rfl, ?yrb40⟩) (by assumption) ?qrb40
            case yrb40 => (intro wz hSw; (try dsimp only at hSw); go_simp <;> with_reducible rfl)
            try simp only [Act.put, List.getElem_toArray, List.getElem_cons_zero, List.getElem_cons_succ, List.setIfInBounds_toArray, List.set_cons_zero, List.set_cons_succ]
            refine wpAnyH_take (i := 41) (v := ?_) rfl (by kernel_rfl) (by kernel_rfl) (by kernel_rfl) (fun _ _ _ h => h) (Or.inl ⟨by rfl, ?yrb41⟩) (by assumption) ?qrb41
            case yrb41 => (intro wz hSw; (try dsimp only at hSw); go_simp <;> with_reducible rfl)
            try simp only [Act.put, List.getElem_toArray, List.getElem_cons_zero, List.getElem_cons_succ, List.setIfInBounds_toArray, List.set_cons_zero, List.set_cons_succ]
            refine wpAnyH_ready (rs := [42]) (by kernel_rfl) (by simp) ?_
            refine AllReadyH.cons rfl (fun K hK => ?_) AllReadyH.nil
            go_simp
            refine HLC.out.mono ?_
            rintro e w7 ⟨rfl, hb⟩
            have HA7 : Hid (Aft D w7) := Lib.hid hb.below
            clear hb
            refine hK.out _ _ (HCB.out _ HA7.out) (fun hHeldrb42 => ?_)
            clear hK K
            try simp only [Act.put, List.getElem_toArray, List.getElem_cons_zero, List.getElem_cons_succ, List.setIfInBounds_toArray, List.set_cons_zero, List.set_cons_succ]
            refine wpAnyH_take (i := 43) (v := ?_) rfl (by kernel_rfl) (by kernel_rfl) (by kernel_rfl) (fun _ _ _ h => h) (Or.inl ⟨by rfl, ?yrb43⟩) (by assumption) ?qrb43
            case yrb43 => (intro wz hSw; (try dsimp only at hSw); go_simp <;> with_reducible rfl)
            try simp only [Act.put, List.getElem_toArray, List.getElem_cons_zero, List.getElem_cons_succ, List.setIfInBounds_toArray, List.set_cons_zero, List.set_cons_succ]
            refine wpAnyH_take (i := 44) (v := ?_) rfl (by kernel_rfl) (by kernel_rfl) (by kernel_rfl) (fun _ _ _ h => h) (Or.inl ⟨by rfl, ?yrb44⟩) (by assumption) ?qrb44
            case yrb44 => (intro wz hSw; (try dsimp only at hSw); go_simp <;> with_reducible rfl)
            try simp only [Act.put, List.getElem_toArray, List.getElem_cons_zero, List.getElem_cons_succ, List.setIfInBounds_toArray, List.set_cons_zero, List.set_cons_succ]
            refine wpAnyH_take (i := 45) (v := ?_) rfl (by kernel_rfl) (by kernel_rfl) (by kernel_rfl) (fun _ _ _ h => h) (Or.inl ⟨by rfl, ?yrb45⟩) (by assumption) ?qrb45
            case yrb45 => (intro wz hSw; (try dsimp only at hSw); go_simp <;> with_reducible rfl)
            try simp only [Act.put, List.getElem_toArray, List.getElem_cons_zero, List.getElem_cons_succ, List.setIfInBounds_toArray, List.set_cons_zero, List.set_cons_succ]
            refine wpAnyH_done (by kernel_rfl) ?_ _
            have HR : Hid (Aft w3 w7) := Lib.hid (HAD.out.trans HA7.out)
            clear hHeld0 hHeldrb42 HCB HLC HA7 H0 hgt1 hgt2 hw hiI hnb hcb
            go_wp2_with fail
            go_roundw
            case rel => exact ⟨k + 1, by go_num, by omega, HR⟩
            case measure => simp [intOf]; omega
          · obtain rfl : k = 0 := by omega
            have H0 := Lib.hid (HCA.out D (Aft.refl _))
            clear HPV H1 H2 H3 HZ1 h0 hg
            go_upto_region 11 with fail
            rw [← hY3]
            clear hY3
            refine wp_region_held_drew (S := fun Z => (Z.cell? ⟨wB.heap.size, 0, none⟩ = some (.int .i64 x0) ∧ Z.cell? ⟨wB.heap.size, 1, none⟩ = some (.int .i64 x1) ∧ Z.cell? ⟨wB.heap.size, 2, none⟩ = some (.int .i64 x2) ∧ Z.cell? ⟨wB.heap.size, 3, none⟩ = some (.int .i64 x3) ∧ Z.cell? ⟨wB.heap.size, 4, none⟩ = some (.int .i64 x4)) ∧ Z.cell? ⟨w5.heap.size, 1, none⟩ = some (.bool true) ∧ Z.cell? ⟨w6.heap.size, 1, none⟩ = some (.bool true)) (by kernel_rfl) (hD ▸ H0.out) (fun hHeld0 => ?_)
            rw [← hD] at hHeld0 ⊢
            clear hD
            refine wpAnyH_take (i := 0) (v := ?_) rfl (by kernel_rfl) (by kernel_rfl) (by kernel_rfl) (fun _ _ _ h => h) (Or.inl ⟨by rfl, ?yra0⟩) (by assumption) ?qra0
            case yra0 => (intro wz hSw; (try dsimp only at hSw); go_simp <;> with_reducible rfl)
            try simp only [Act.put, List.getElem_toArray, List.getElem_cons_zero, List.setIfInBounds_toArray, List.set_cons_zero, List.set_cons_succ]
            refine wpAnyH_take (i := 1) (v := ?_) rfl (by kernel_rfl) (by kernel_rfl) (by kernel_rfl) (fun _ _ _ h => h) (Or.inl ⟨by rfl, ?yra1⟩) (by assumption) ?qra1
            case yra1 => (intro wz hSw; (try dsimp only at hSw); go_simp <;> with_reducible rfl)
            try simp only [Act.put, List.getElem_toArray, List.getElem_cons_zero, List.getElem_cons_succ, List.setIfInBounds_toArray, List.set_cons_zero, List.set_cons_succ]
            refine wpAnyH_take (i := 2) (v := ?_) rfl (by kernel_rfl) (by kernel_rfl) (by kernel_rfl) (fun _ _ _ h => h) (Or.inl ⟨by rfl, ?yra2⟩) (by assumption) ?qra2
            case yra2 => (intro wz hSw; (try dsimp only at hSw); go_simp <;> with_reducible rfl)
            try simp only [Act.put, List.getElem_toArray, List.getElem_cons_zero, List.getElem_cons_succ, List.setIfInBounds_toArray, List.set_cons_zero, List.set_cons_succ]
            refine wpAnyH_take (i := 3) (v := ?_) rfl (by kernel_rfl) (by kernel_rfl) (by kernel_rfl) (fun _ _ _ h => h) (Or.inl ⟨by rfl, ?yra3⟩) (by assumption) ?qra3
            case yra3 => (intro wz hSw; (try dsimp only at hSw); go_simp <;> with_reducible rfl)
            try simp only [Act.put, List.getElem_toArray, List.getElem_cons_zero, List.getElem_cons_succ, List.setIfInBounds_toArray, List.set_cons_zero, List.set_cons_succ]
            refine wpAnyH_take (i := 4) (v := ?_) rfl (by kernel_rfl) (by kernel_rfl) (by kernel_rfl) (fun _ _ _ h => h) (Or.inl ⟨by rfl, ?yra4⟩) (by assumption) ?qra4
            case yra4 => (intro wz hSw; (try dsimp only at hSw); go_simp <;> with_reducible rfl)
            try simp only [Act.put, List.getElem_toArray, List.getElem_cons_zero, List.getElem_cons_succ, List.setIfInBounds_toArray, List.set_cons_zero, List.set_cons_succ]
            refine wpAnyH_take (i := 5) (v := ?_) rfl (by kernel_rfl) (by kernel_rfl) (by kernel_rfl) (fun _ _ _ h => h) (Or.inl ⟨by rfl, ?yra5⟩) (by assumption) ?qra5
            case yra5 => (intro wz hSw; (try dsimp only at hSw); go_simp <;> with_reducible rfl)
            try simp only [Act.put, List.getElem_toArray, List.getElem_cons_zero, List.getElem_cons_succ, List.setIfInBounds_toArray, List.set_cons_zero, List.set_cons_succ]
            refine wpAnyH_take (i := 6) (v := ?_) rfl (by kernel_rfl) (by kernel_rfl) (by kernel_rfl) (fun _ _ _ h => h) (Or.inl ⟨by rfl, ?yra6⟩) (by assumption) ?qra6
            case yra6 => (intro wz hSw; (try dsimp only at hSw); go_simp <;> with_reducible rfl)
            try simp only [Act.put, List.getElem_toArray, List.getElem_cons_zero, List.getElem_cons_succ, List.setIfInBounds_toArray, List.set_cons_zero, List.set_cons_succ]
            refine wpAnyH_take (i := 7) (v := ?_) rfl (by kernel_rfl) (by kernel_rfl) (by kernel_rfl) (fun _ _ _ h => h) (Or.inl ⟨by rfl, ?yra7⟩) (by assumption) ?qra7
            case yra7 => (intro wz hSw; (try dsimp only at hSw); go_simp <;> with_reducible rfl)
            try simp only [Act.put, List.getElem_toArray, List.getElem_cons_zero, List.getElem_cons_succ, List.setIfInBounds_toArray, List.set_cons_zero, List.set_cons_succ]
            refine wpAnyH_take (i := 8) (v := ?_) rfl (by kernel_rfl) (by kernel_rfl) (by kernel_rfl) (fun _ _ _ h => h) (Or.inl ⟨by rfl, ?yra8⟩) (by assumption) ?qra8
            case yra8 => (intro wz hSw; (try dsimp only at hSw); go_simp <;> with_reducible rfl)
            try simp only [Act.put, List.getElem_toArray, List.getElem_cons_zero, List.getElem_cons_succ, List.setIfInBounds_toArray, List.set_cons_zero, List.set_cons_succ]
            refine wpAnyH_take (i := 9) (v := ?_) rfl (by kernel_rfl) (by kernel_rfl) (by kernel_rfl) (fun _ _ _ h => h) (Or.inl ⟨by rfl, ?yra9⟩) (by assumption) ?qra9
            case yra9 => (intro wz hSw; (try dsimp only at hSw); go_simp <;> with_reducible rfl)
            try simp only [Act.put, List.getElem_toArray, List.getElem_cons_zero, List.getElem_cons_succ, List.setIfInBounds_toArray, List.set_cons_zero, List.set_cons_succ]
            refine wpAnyH_take (i := 10) (v := ?_) rfl (by kernel_rfl) (by kernel_rfl) (by kernel_rfl) (fun _ _ _ h => h) (Or.inl ⟨by rfl, ?yra10⟩) (by assumption) ?qra10
            case yra10 => (intro wz hSw; (try dsimp only at hSw); go_simp <;> with_reducible rfl)
            try simp only [Act.put, List.getElem_toArray, List.getElem_cons_zero, List.getElem_cons_succ, List.setIfInBounds_toArray, List.set_cons_zero, List.set_cons_succ]
            refine wpAnyH_take (i := 11) (v := ?_) rfl (by kernel_rfl) (by kernel_rfl) (by kernel_rfl) (fun _ _ _ h => h) (Or.inl ⟨by rfl, ?yra11⟩) (by assumption) ?qra11
            case yra11 => (intro wz hSw; (try dsimp only at hSw); go_simp <;> with_reducible rfl)
            try simp only [Act.put, List.getElem_toArray, List.getElem_cons_zero, List.getElem_cons_succ, List.setIfInBounds_toArray, List.set_cons_zero, List.set_cons_succ]
            refine wpAnyH_take (i := 12) (v := ?_) rfl (by kernel_rfl) (by kernel_rfl) (by kernel_rfl) (fun _ _ _ h => h) (Or.inl ⟨by rfl, ?yra12⟩) (by assumption) ?qra12
            case yra12 => (intro wz hSw; (try dsimp only at hSw); go_simp <;> with_reducible rfl)
            try simp only [Act.put, List.getElem_toArray, List.getElem_cons_zero, List.getElem_cons_succ, List.setIfInBounds_toArray, List.set_cons_zero, List.set_cons_succ]
            refine wpAnyH_take (i := 13) (v := ?_) rfl (by kernel_rfl) (by kernel_rfl) (by kernel_rfl) (fun _ _ _ h => h) (Or.inl ⟨by rfl, ?yra13⟩) (by assumption) ?qra13
            case yra13 => (intro wz hSw; (try dsimp only at hSw); go_simp <;> with_reducible rfl)
            try simp only [Act.put, List.getElem_toArray, List.getElem_cons_zero, List.getElem_cons_succ, List.setIfInBounds_toArray, List.set_cons_zero, List.set_cons_succ]
            refine wpAnyH_take (i := 14) (v := ?_) rfl (by kernel_rfl) (by kernel_rfl) (by kernel_rfl) (fun _ _ _ h => h) (Or.inl ⟨by rfl, ?yra14⟩) (by assumption) ?qra14
            case yra14 => (intro wz hSw; (try dsimp only at hSw); go_simp <;> with_reducible rfl)
            try simp only [Act.put, List.getElem_toArray, List.getElem_cons_zero, List.getElem_cons_succ, List.setIfInBounds_toArray, List.set_cons_zero, List.set_cons_succ]
            refine wpAnyH_take (i := 15) (v := ?_) rfl (by kernel_rfl) (by kernel_rfl) (by kernel_rfl) (fun _ _ _ h => h) (Or.inl ⟨by rfl, ?yra15⟩) (by assumption) ?qra15
            case yra15 => (intro wz hSw; (try dsimp only at hSw); go_simp <;> with_reducible rfl)
            try simp only [Act.put, List.getElem_toArray, List.getElem_cons_zero, List.getElem_cons_succ, List.setIfInBounds_toArray, List.set_cons_zero, List.set_cons_succ]
            refine wpAnyH_take (i := 16) (v := ?_) rfl (by kernel_rfl) (by kernel_rfl) (by kernel_rfl) (fun _ _ _ h => h) (Or.inl ⟨by rfl, ?yra16⟩) (by assumption) ?qra16
            case yra16 => (intro wz hSw; (try dsimp only at hSw); go_simp <;> with_reducible rfl)
            try simp only [Act.put, List.getElem_toArray, List.getElem_cons_zero, List.getElem_cons_succ, List.setIfInBounds_toArray, List.set_cons_zero, List.set_cons_succ]
            refine wpAnyH_take (i := 17) (v := ?_) rfl (by kernel_rfl) (by kernel_rfl) (by kernel_rfl) (fun _ _ _ h => h) (Or.inl ⟨by rfl, ?yra17⟩) (by assumption) ?qra17
            case yra17 => (intro wz hSw; (try dsimp only at hSw); go_simp <;> with_reducible rfl)
            try simp only [Act.put, List.getElem_toArray, List.getElem_cons_zero, List.getElem_cons_succ, List.setIfInBounds_toArray, List.set_cons_zero, List.set_cons_succ]
            refine wpAnyH_take (i := 18) (v := ?_) rfl (by kernel_rfl) (by kernel_rfl) (by kernel_rfl) (fun _ _ _ h => h) (Or.inl ⟨by rfl, ?yra18⟩) (by assumption) ?qra18
            case yra18 => (intro wz hSw; (try dsimp only at hSw); go_simp <;> with_reducible rfl)
            try simp only [Act.put, List.getElem_toArray, List.getElem_cons_zero, List.getElem_cons_succ, List.setIfInBounds_toArray, List.set_cons_zero, List.set_cons_succ]
            refine wpAnyH_take (i := 19) (v := ?_) rfl (by kernel_rfl) (by kernel_rfl) (by kernel_rfl) (fun _ _ _ h => h) (Or.inl ⟨by rfl, ?yra19⟩) (by assumption) ?qra19
            case yra19 => (intro wz hSw; (try dsimp only at hSw); go_simp <;> with_reducible rfl)
            try simp only [Act.put, List.getElem_toArray, List.getElem_cons_zero, List.getElem_cons_succ, List.setIfInBounds_toArray, List.set_cons_zero, List.set_cons_succ]
            refine wpAnyH_take (i := 20) (v := ?_) rfl (by kernel_rfl) (by kernel_rfl) (by kernel_rfl) (fun _ _ _ h => h) (Or.inl ⟨by rfl, ?yra20⟩) (by assumption) ?qra20
            case yra20 => (intro wz hSw; (try dsimp only at hSw); go_simp <;> with_reducible rfl)
            try simp only [Act.put, List.getElem_toArray, List.getElem_cons_zero, List.getElem_cons_succ, List.setIfInBounds_toArray, List.set_cons_zero, List.set_cons_succ]
            refine wpAnyH_take (i := 21) (v := ?_) rfl (by kernel_rfl) (by kernel_rfl) (by kernel_rfl) (fun _ _ _ h => h) (Or.inl ⟨by rfl, ?yra21⟩) (by assumption) ?qra21
            case yra21 => (intro wz hSw; (try dsimp only at hSw); go_simp <;> with_reducible rfl)
            try simp only [Act.put, List.getElem_toArray, List.getElem_cons_zero, List.getElem_cons_succ, List.setIfInBounds_toArray, List.set_cons_zero, List.set_cons_succ]
            refine wpAnyH_take (i := 22) (v := ?_) rfl (by kernel_rfl) (by kernel_rfl) (by kernel_rfl) (fun _ _ _ h => h) (Or.inl ⟨by rfl, ?yra22⟩) (by assumption) ?qra22
            case yra22 => (intro wz hSw; (try dsimp only at hSw); go_simp <;> with_reducible rfl)
            try simp only [Act.put, List.getElem_toArray, List.getElem_cons_zero, List.getElem_cons_succ, List.setIfInBounds_toArray, List.set_cons_zero, List.set_cons_succ]
            refine wpAnyH_take (i := 23) (v := ?_) rfl (by kernel_rfl) (by kernel_rfl) (by kernel_rfl) (fun _ _ _ h => h) (Or.inl ⟨by rfl, ?yra23⟩) (by assumption) ?qra23
            case yra23 => (intro wz hSw; (try dsimp only at hSw); go_simp <;> with_reducible rfl)
            try simp only [Act.put, List.getElem_toArray, List.getElem_cons_zero, List.getElem_cons_succ, List.setIfInBounds_toArray, List.set_cons_zero, List.set_cons_succ]
            refine wpAnyH_take (i := 24) (v := ?_) rfl (by kernel_rfl) (by kernel_rfl) (by kernel_rfl) (fun _ _ _ h => h) (Or.inl ⟨by rfl, ?yra24⟩) (by assumption) ?qra24
            case yra24 => (intro wz hSw; (try dsimp only at hSw); go_simp <;> with_reducible rfl)
            try simp only [Act.put, List.getElem_toArray, List.getElem_cons_zero, List.getElem_cons_succ, List.setIfInBounds_toArray, List.set_cons_zero, List.set_cons_succ]
            refine wpAnyH_take (i := 25) (v := ?_) rfl (by kernel_rfl) (by kernel_rfl) (by kernel_rfl) (fun _ _ _ h => h) (Or.inl ⟨by rfl, ?yra25⟩) (by assumption) ?qra25
            case yra25 => (intro wz hSw; (try dsimp only at hSw); go_simp <;> with_reducible rfl)
            try simp only [Act.put, List.getElem_toArray, List.getElem_cons_zero, List.getElem_cons_succ, List.setIfInBounds_toArray, List.set_cons_zero, List.set_cons_succ]
            refine wpAnyH_take (i := 26) (v := ?_) rfl (by kernel_rfl) (by kernel_rfl) (by kernel_rfl) (fun _ _ _ h => h) (Or.inl ⟨by rfl, ?yra26⟩) (by assumption) ?qra26
            case yra26 => (intro wz hSw; (try dsimp only at hSw); go_simp <;> with_reducible rfl)
            try simp only [Act.put, List.getElem_toArray, List.getElem_cons_zero, List.getElem_cons_succ, List.setIfInBounds_toArray, List.set_cons_zero, List.set_cons_succ]
            refine wpAnyH_take (i := 27) (v := ?_) rfl (by kernel_rfl) (by kernel_rfl) (by kernel_rfl) (fun _ _ _ h => h) (Or.inl ⟨by rfl, ?yra27⟩) (by assumption) ?qra27
            case yra27 => (intro wz hSw; (try dsimp only at hSw); go_simp <;> with_reducible rfl)
            try simp only [Act.put, List.getElem_toArray, List.getElem_cons_zero, List.getElem_cons_succ, List.setIfInBounds_toArray, List.set_cons_zero, List.set_cons_succ]
            refine wpAnyH_take (i := 28) (v := ?_) rfl (by kernel_rfl) (by kernel_rfl) (by kernel_rfl) (fun _ _ _ h => h) (Or.inl ⟨by rfl, ?yra28⟩) (by assumption) ?qra28
            case yra28 => (intro wz hSw; (try dsimp only at hSw); go_simp <;> with_reducible rfl)
            try simp only [Act.put, List.getElem_toArray, List.getElem_cons_zero, List.getElem_cons_succ, List.setIfInBounds_toArray, List.set_cons_zero, List.set_cons_succ]
            refine wpAnyH_take (i := 29) (v := ?_) rfl (by kernel_rfl) (by kernel_rfl) (by kernel_rfl) (fun _ _ _ h => h) (Or.inl ⟨by rfl, ?yra29⟩) (by assumption) ?qra29
            case yra29 => (intro wz hSw; (try dsimp only at hSw); go_simp <;> with_reducible rfl)
            try simp only [Act.put, List.getElem_toArray, List.getElem_cons_zero, List.getElem_cons_succ, List.setIfInBounds_toArray, List.set_cons_zero, List.set_cons_succ]
            refine wpAnyH_take (i := 30) (v := ?_) rfl (by kernel_rfl) (by kernel_rfl) (by kernel_rfl) (fun _ _ _ h => h) (Or.inl ⟨by rfl, ?yra30⟩) (by assumption) ?qra30
            case yra30 => (intro wz hSw; (try dsimp only at hSw); go_simp <;> with_reducible rfl)
            try simp only [Act.put, List.getElem_toArray, List.getElem_cons_zero, List.getElem_cons_succ, List.setIfInBounds_toArray, List.set_cons_zero, List.set_cons_succ]
            refine wpAnyH_take (i := 31) (v := ?_) rfl (by kernel_rfl) (by kernel_rfl) (by kernel_rfl) (fun _ _ _ h => h) (Or.inl ⟨by rfl, ?yra31⟩) (by assumption) ?qra31
            case yra31 => (intro wz hSw; (try dsimp only at hSw); go_simp <;> with_reducible rfl)
            try simp only [Act.put, List.getElem_toArray, List.getElem_cons_zero, List.getElem_cons_succ, List.setIfInBounds_toArray, List.set_cons_zero, List.set_cons_succ]
            refine wpAnyH_take (i := 32) (v := ?_) rfl (by kernel_rfl) (by kernel_rfl) (by kernel_rfl) (fun _ _ _ h => h) (Or.inl ⟨by rfl, ?yra32⟩) (by assumption) ?qra32
            case yra32 => (intro wz hSw; (try dsimp only at hSw); go_simp <;> with_reducible rfl)
            try simp only [Act.put, List.getElem_toArray, List.getElem_cons_zero, List.getElem_cons_succ, List.setIfInBounds_toArray, List.set_cons_zero, List.set_cons_succ]
            refine wpAnyH_take (i := 33) (v := ?_) rfl (by kernel_rfl) (by kernel_rfl) (by kernel_rfl) (fun _ _ _ h => h) (Or.inl ⟨by rfl, ?yra33⟩) (by assumption) ?qra33
            case yra33 => (intro wz hSw; (try dsimp only at hSw); go_simp <;> with_reducible rfl)
            try simp only [Act.put, List.getElem_toArray, List.getElem_cons_zero, List.getElem_cons_succ, List.setIfInBounds_toArray, List.set_cons_zero, List.set_cons_succ]
            refine wpAnyH_take (i := 34) (v := undef) rfl (by kernel_rfl) (by kernel_rfl) (by kernel_rfl) (fun _ _ _ h => h) (Or.inr ⟨by rfl, rfl⟩) (by assumption) ?_
            try simp only [Act.put, List.getElem_toArray, List.getElem_cons_zero, List.getElem_cons_succ, List.setIfInBounds_toArray, List.set_cons_zero, List.set_cons_succ]
            refine wpAnyH_take (i := 35) (v := undef) rfl (by kernel_rfl) (by kernel_rfl) (by kernel_rfl) (fun _ _ _ h => h) (Or.inr ⟨by rfl, rfl⟩) (by assumption) ?_
            try simp only [Act.put, List.getElem_toArray, List.getElem_cons_zero, List.getElem_cons_succ, List.setIfInBounds_toArray, List.set_cons_zero, List.set_cons_succ]
            refine wpAnyH_take (i := 36) (v := undef) rfl (by kernel_rfl) (by kernel_rfl) (by kernel_rfl) (fun _ _ _ h => h) (Or.inr ⟨by rfl, rfl⟩) (by assumption) ?_
            try simp only [Act.put, List.getElem_toArray, List.getElem_cons_zero, List.getElem_cons_succ, List.setIfInBounds_toArray, List.set_cons_zero, List.set_cons_succ]
            refine wpAnyH_take (i := 37) (v := undef) rfl (by kernel_rfl) (by kernel_rfl) (by kernel_rfl) (fun _ _ _ h => h) (Or.inr ⟨by rfl, rfl⟩) (by assumption) ?_
            try simp only [Act.put, List.getElem_toArray, List.getElem_cons_zero, List.getElem_cons_succ, List.setIfInBounds_toArray, List.set_cons_zero, List.set_cons_succ]
            refine wpAnyH_take (i := 38) (v := undef) rfl (by kernel_rfl) (by kernel_rfl) (by kernel_rfl) (fun _ _ _ h => h) (Or.inr ⟨by rfl, rfl⟩) (by assumption) ?_
            try simp only [Act.put, List.getElem_toArray, List.getElem_cons_zero, List.getElem_cons_succ, List.setIfInBounds_toArray, List.set_cons_zero, List.set_cons_succ]
            refine wpAnyH_take (i := 39) (v := undef) rfl (by kernel_rfl) (by kernel_rfl) (by kernel_rfl) (fun _ _ _ h => h) (Or.inr ⟨by rfl, rfl⟩) (by assumption) ?_
            try simp only [Act.put, List.getElem_toArray, List.getElem_cons_zero, List.getElem_cons_succ, List.setIfInBounds_toArray, List.set_cons_zero, List.set_cons_succ]
            refine wpAnyH_take (i := 40) (v := undef) rfl (by kernel_rfl) (by kernel_rfl) (by kernel_rfl) (fun _ _ _ h => h) (Or.inr ⟨by rfl, rfl⟩) (by assumption) ?_
            try simp only [Act.put, List.getElem_toArray, List.getElem_cons_zero, List.getElem_cons_succ, List.setIfInBounds_toArray, List.set_cons_zero, List.set_cons_succ]
            refine wpAnyH_take (i := 41) (v := undef) rfl (by kernel_rfl) (by kernel_rfl) (by kernel_rfl) (fun _ _ _ h => h) (Or.inr ⟨by rfl, rfl⟩) (by assumption) ?_
            try simp only [Act.put, List.getElem_toArray, List.getElem_cons_zero, List.getElem_cons_succ, List.setIfInBounds_toArray, List.set_cons_zero, List.set_cons_succ]
            refine wpAnyH_take (i := 42) (v := undef) rfl (by kernel_rfl) (by kernel_rfl) (by kernel_rfl) (fun _ _ _ h => h) (Or.inr ⟨by rfl, rfl⟩) (by assumption) ?_
            try simp only [Act.put, List.getElem_toArray, List.getElem_cons_zero, List.getElem_cons_succ, List.setIfInBounds_toArray, List.set_cons_zero, List.set_cons_succ]
            refine wpAnyH_take (i := 43) (v := undef) rfl (by kernel_rfl) (by kernel_rfl) (by kernel_rfl) (fun _ _ _ h => h) (Or.inr ⟨by rfl, rfl⟩) (by assumption) ?_
            try simp only [Act.put, List.getElem_toArray, List.getElem_cons_zero, List.getElem_cons_succ, List.setIfInBounds_toArray, List.set_cons_zero, List.set_cons_succ]
            refine wpAnyH_take (i := 44) (v := ?_) rfl (by kernel_rfl) (by kernel_rfl) (by kernel_rfl) (fun _ _ _ h => h) (Or.inl ⟨by rfl, ?yra44⟩) (by assumption) ?qra44
            case yra44 => (intro wz hSw; (try dsimp only at hSw); go_simp <;> with_reducible rfl)
            try simp only [Act.put, List.getElem_toArray, List.getElem_cons_zero, List.getElem_cons_succ, List.setIfInBounds_toArray, List.set_cons_zero, List.set_cons_succ]
            refine wpAnyH_take (i := 45) (v := ?_) rfl (by kernel_rfl) (by kernel_rfl) (by kernel_rfl) (fun _ _ _ h => h) (Or.inl ⟨by rfl, ?yra45⟩) (by assumption) ?qra45
            case yra45 => (intro wz hSw; (try dsimp only at hSw); go_simp <;> with_reducible rfl)
            try simp only [Act.put, List.getElem_toArray, List.getElem_cons_zero, List.getElem_cons_succ, List.setIfInBounds_toArray, List.set_cons_zero, List.set_cons_succ]
            refine wpAnyH_done (by kernel_rfl) ?_ _
            clear hHeld0 HCA H0 hnb hcb
            go_wp2_with fail
            go_roundw
            case rel => exact ⟨1, by go_num, by omega, HAD⟩
            case measure => simp [intOf]; omega
        · have HAC : Hid (Aft w3 wB) := Lib.hid HW.out
          obtain ⟨⟨c0, c1⟩, hbl⟩ := HC.out wB (HA3.out.trans HW.out)
          have HTX : Hid (Txs w3 (.slice p n1 c) h.txs) := Lib.hid (HV.out w3 HA3.out).1
          have HOX : Hid (Ords w3 (.slice q n2 d) h.ords) := Lib.hid (HV.out w3 HA3.out).2
          clear HK1 HLL HFD HV HW
          go_wp2_with fail
          clear c0 c1 hbl hlt hk
          go_loopw [108] (fun s108 wr => ∃ k : Nat, s108 = .int .i64 (k : Int) ∧ k ≤ n1 ∧ Hid (Aft w3 wr)) (fun s108 _ => n1 - (intOf s108).toNat)
          case atStart => exact ⟨0, rfl, Nat.zero_le _, HAC⟩
          case round =>
            clear HAC
            obtain ⟨k, rfl, hk, HW⟩ := hrel
            obtain ⟨wA, hwA⟩ : ∃ wA, wA = wr := ⟨_, rfl⟩
            subst hwA
            by_cases hlt : k < n1
            · have hltx : k < h.txs.length := by rw [← HN1.out]; exact hlt
              obtain ⟨g, o, sp, sc, e1, hg, c0, c1, c2, hs⟩ := (show Txs w3 (.slice p h.txs.length c) h.txs from by have := HTX.out; rw [HN1.out] at this; exact this).at_ hltx
              have c0 := HW.out.cell hg c0
              have c1 := HW.out.cell hg c1
              have c2 := HW.out.cell hg c2
              have hg := Nat.lt_of_lt_of_le hg HW.out.size
              subst e1
              have hkI : (k : Int) < (n1 : Int) := by omega
              have HRK := Lib.hid (HRS.out _ (getD_mem hltx))
              have HLN2 := Lib.hid (HS.out.1.ops _ (getD_mem hltx))
              generalize h.txs.getD k Txn.zero = t at c0 c1 c2 hs HRK HLN2
              obtain ⟨ti, td, tl⟩ := t
              simp only at c0 c1 c2 hs HRK HLN2
              have HOP : Hid (∀ Z, Aft w3 Z → Oprs 0 Z (.slice sp tl.length sc) tl) := Lib.hid fun Z hZ => (hs.below hZ).2
              obtain ⟨tn, htn⟩ : ∃ n, n = tl.length := ⟨_, rfl⟩
              have HTN := Lib.hid htn
              have htl : tn ≤ 100 := by have := HLN2.out; omega
              rw [← htn] at c2 HOP
              obtain ⟨Y, hY⟩ : ∃ Y, Y = wA.alloc (.cells #[.int .i64 ti, .bool td, .slice sp tn sc] 36) := ⟨_, rfl⟩
              have HAY : Hid (Aft w3 Y) := Lib.hid (by rw [hY]; exact HW.out.lay _)
              have HYB : Hid (Y.heap[wA.heap.size]? = some (.cells #[.int .i64 ti, .bool td, .slice sp tn sc] 36)) := Lib.hid (by rw [hY]; exact heap_alloc_at _ _ _ rfl)
              have HZY : Hid (∀ Z, Aft Y Z → (Z.cell? ⟨wA.heap.size, 0, none⟩ = some (.int .i64 ti) ∧ Z.cell? ⟨wA.heap.size, 1, none⟩ = some (.bool td) ∧ Z.cell? ⟨wA.heap.size, 2, none⟩ = some (.slice sp tn sc)) ∧ wA.heap.size < Z.heap.size) := Lib.hid fun Z hZ => by
                have e := (hZ.block _ (heap_lt HYB.out)).trans HYB.out
                exact ⟨by simp [World.cell?, e], heap_lt e⟩
              obtain ⟨TA, hTA⟩ : ∃ f : Nat → Nat, f = fun j => tot (isWR ti) (l.take j) := ⟨_, rfl⟩
              obtain ⟨FB, hFB⟩ : ∃ f : Nat → Nat, f = fun j => ((tl.take j).filter (rdsB h ⟨ti, td, tl⟩)).length := ⟨_, rfl⟩
              obtain ⟨m, hm⟩ : ∃ m, m = FB tn := ⟨_, rfl⟩
              have HTJ : Hid (∀ j, j < ln → TA (j + 1) = TA j + (if isWR ti (l.getD j Hvy.zero) = true then (l.getD j Hvy.zero).n.toNat else 0) ∧ TA j ≤ 300000000 * 1000000) := Lib.hid fun j hj => by rw [hTA]; exact ⟨HTT.out _ j hj, HTB.out _ j⟩
              have HTE : Hid (TA 0 = 0 ∧ TA ln = m) := Lib.hid ⟨by rw [hTA]; rfl, by
                rw [hm, hTA, hFB]
                show tot (isWR ti) (l.take ln) = ((tl.take tn).filter (rdsB h ⟨ti, td, tl⟩)).length
                rw [HLN.out, HTN.out, List.take_length, List.take_length]; exact HRK.out⟩
              have HFJ : Hid (∀ j, j < tn → FB (j + 1) = FB j + (if rdsB h ⟨ti, td, tl⟩ (tl.getD j Opr.zero) = true then 1 else 0) ∧ FB j ≤ 100) := Lib.hid fun j hj => by
                rw [hFB]
                refine ⟨filter_take _ Opr.zero tl j (by rw [← HTN.out]; exact hj), Nat.le_trans (List.length_filter_le _ _) ?_⟩
                rw [List.length_take]; omega
              have HFE : Hid (FB 0 = 0 ∧ FB tn = m) := Lib.hid ⟨by rw [hFB]; rfl, hm.symm⟩
              have HI0 : Hid (Aft Y Y) := Lib.hid (Aft.refl _)
              clear hs htn HW HLN2 HYB hTA hFB hm HRK
              go_upto_region 17 with fail
              rw [← hY]
              clear hY c0 c1 c2
              go_wp2_with fail
              go_loopw [12, 114] (fun s12 s114 wr => ∃ j : Nat, s114 = .int .i64 (j : Int) ∧ s12 = .int .i64 ((TA j : Nat) : Int) ∧ j ≤ ln ∧ Hid (Aft Y wr)) (fun _ s114 _ => ln - (intOf s114).toNat)
              case atStart => exact ⟨0, rfl, by rw [HTE.out.1]; rfl, Nat.zero_le _, HI0⟩
              case round =>
                clear HI0
                obtain ⟨j, rfl, rfl, hj, HW⟩ := hrel
                obtain ⟨wB, hwB⟩ : ∃ wB, wB = wr := ⟨_, rfl⟩
                subst hwB
                by_cases hlt2 : j < ln
                · have haz := HAY.out.trans HW.out
                  obtain ⟨g, o, e1, _, hg, c0, c1, c2, c3, c4⟩ := HLC.out j hlt2
                  subst e1
                  have c0 := haz.cell hg c0
                  have c1 := haz.cell hg c1
                  have c2 := haz.cell hg c2
                  have c3 := haz.cell hg c3
                  have c4 := haz.cell hg c4
                  have hg := Nat.lt_of_lt_of_le hg haz.size
                  have hjI : (j : Int) < (ln : Int) := by omega
                  have HTX2 := Lib.hid (HTJ.out j hlt2)
                  have HNX := Lib.hid (HNB.out j hlt2)
                  generalize l.getD j Hvy.zero = x at c0 c1 c2 c3 c4 HTX2 HNX
                  obtain ⟨x0, x1, x2, x3, x4⟩ := x
                  unfold isWR at HTX2
                  dsimp only at c0 c1 c2 c3 c4 HTX2 HNX
                  obtain ⟨Z, hZ⟩ : ∃ Z, Z = wB.alloc (.cells #[.int .i64 x0, .int .i64 x1, .int .i64 x2, .int .i64 x3, .int .i64 x4] 33) := ⟨_, rfl⟩
                  have HZB : Hid (Aft Y Z) := Lib.hid (by rw [hZ]; exact HW.out.lay _)
                  have e : Z.heap[wB.heap.size]? = some (.cells #[.int .i64 x0, .int .i64 x1, .int .i64 x2, .int .i64 x3, .int .i64 x4] 33) := by rw [hZ]; exact heap_alloc_at _ _ _ rfl
                  have m : Z.cell? ⟨wB.heap.size, 0, none⟩ = some (.int .i64 x0) ∧ Z.cell? ⟨wB.heap.size, 1, none⟩ = some (.int .i64 x1) ∧ Z.cell? ⟨wB.heap.size, 2, none⟩ = some (.int .i64 x2) ∧ Z.cell? ⟨wB.heap.size, 3, none⟩ = some (.int .i64 x3) ∧ Z.cell? ⟨wB.heap.size, 4, none⟩ = some (.int .i64 x4) := by simp [World.cell?, e]
                  obtain ⟨m0, m1, m2, m3, m4⟩ := m
                  have hzl := heap_lt e
                  obtain ⟨⟨k0, k1, k2⟩, k9⟩ := HZY.out Z HZB.out
                  clear HW haz e
                  go_upto_region 21 with fail
                  rw [← hZ]
                  clear hZ c0 c1 c2 c3 c4
                  by_cases h2 : x2 = 2
                  · have hb2 : (x2 == 2) = true := by simp [h2]
                    by_cases h1 : x1 = ti
                    · have hb1 : (x1 == ti) = true := by simp [h1]
                      have HN : Hid (TA (j + 1) = TA j + x4.toNat ∧ TA j ≤ 300000000 * 1000001) := Lib.hid ⟨by have := HTX2.out.1; simpa [h1, h2] using this, by have := HTX2.out.2; omega⟩
                      have hw : IntKind.i64.wrap (((TA j : Nat) : Int) + x4) = ((TA (j + 1) : Nat) : Int) := by have h3 := HN.out.1; have h4 := HN.out.2; have h5 := HNX.out; rw [IntKind.wrap_i64] <;> omega
                      clear h1 h2 HTX2 HNX HN
                      go_wp2_with fail
                      go_roundw
                      case rel => exact ⟨j + 1, by go_num, by first | rfl | rw [hw] | simp [hw], by omega, HZB⟩
                      case measure => simp [intOf]; omega
                    · have hb1 : (x1 == ti) = false := by simp [h1]
                      have HN : Hid (TA (j + 1) = TA j) := Lib.hid (by have := HTX2.out.1; simpa [h1] using this)
                      clear h1 h2 HTX2 HNX
                      go_wp2_with fail
                      go_roundw
                      case rel => exact ⟨j + 1, by go_num, by rw [HN.out], by omega, HZB⟩
                      case measure => simp [intOf]; omega
                  · have hb2 : (x2 == 2) = false := by simp [h2]
                    have HN : Hid (TA (j + 1) = TA j) := Lib.hid (by have := HTX2.out.1; simpa [h2] using this)
                    clear h2 HTX2 HNX
                    go_wp2_with fail
                    go_roundw
                    case rel => exact ⟨j + 1, by go_num, by rw [HN.out], by omega, HZB⟩
                    case measure => simp [intOf]; omega
                · have hje : j = ln := by omega
                  have HJ0 : Hid (Aft Y wB) := HW
                  rw [hje, HTE.out.2]
                  clear HW hlt2 hj
                  have hjI : ¬ (ln : Int) < (ln : Int) := by omega
                  obtain ⟨⟨k0, k1, k2⟩, k9⟩ := HZY.out wB HJ0.out
                  go_wp2_with fail
                  clear k0 k1 k2 k9
                  go_loopw [13, 138] (fun s13 s138 wr => ∃ j : Nat, s138 = .int .i64 (j : Int) ∧ s13 = .int .i64 ((FB j : Nat) : Int) ∧ j ≤ tn ∧ Hid (Aft Y wr)) (fun _ s138 _ => tn - (intOf s138).toNat)
                  case atStart => exact ⟨0, rfl, by rw [HFE.out.1]; rfl, Nat.zero_le _, HJ0⟩
                  case round =>
                    clear HJ0
                    obtain ⟨j, rfl, rfl, hj, HW⟩ := hrel
                    obtain ⟨wB, hwB⟩ : ∃ wB, wB = wr := ⟨_, rfl⟩
                    subst hwB
                    by_cases hlt2 : j < tn
                    · have haz := HAY.out.trans HW.out
                      have hltl : j < tl.length := by rw [← HTN.out]; exact hlt2
                      obtain ⟨p', c', e, _, hc⟩ := (HOP.out _ haz).open_
                      injection e with e1 e2 e3
                      subst e1 e3
                      clear e2
                      obtain ⟨g2, o2, rfl, _, hg2, d0, d1, d2, d3⟩ := hc j hltl
                      clear hc
                      have hjI : (j : Int) < (tn : Int) := by omega
                      have HFX := Lib.hid (HFJ.out j hlt2)
                      generalize tl.getD j Opr.zero = x at d0 d1 d2 d3 HFX
                      obtain ⟨xr, xk, xt, xn⟩ := x
                      unfold rdsB at HFX
                      dsimp only at d0 d1 d2 d3 HFX
                      obtain ⟨Z, hZ⟩ : ∃ Z, Z = wB.alloc (boxO ⟨xr, xk, xt, xn⟩) := ⟨_, rfl⟩
                      have HZB : Hid (Aft Y Z) := Lib.hid (by rw [hZ]; exact HW.out.lay _)
                      have HLS := Lib.hid (HLT.out Z (HA3.out.trans (HAY.out.trans HZB.out)) ⟨xr, xk, xt, xn⟩)
                      dsimp only at HLS
                      obtain ⟨m9, ⟨m0, m1, m2, m3⟩, _⟩ := cellsO (show Z.heap[wB.heap.size]? = some (boxO ⟨xr, xk, xt, xn⟩) by rw [hZ]; exact heap_alloc_at _ _ _ rfl)
                      obtain ⟨⟨k0, k1, k2⟩, k9⟩ := HZY.out Z HZB.out
                      obtain ⟨⟨c0, c1⟩, hbl⟩ := HC.out Z (HA3.out.trans (HAY.out.trans HZB.out))
                      generalize lastB h ⟨xr, xk, xt, xn⟩ = lb at HFX HLS
                      clear HW haz
                      unfold boxO at hZ
                      go_upto_region 27 with fail
                      rw [← hZ]
                      clear hZ d0 d1 d2 d3
                      cases td with
                      | false =>
                        have HN : Hid (FB (j + 1) = FB j) := Lib.hid (by have := HFX.out.1; simpa using this)
                        clear HFX HLS
                        go_wp2_with fail
                        go_roundw
                        case rel => exact ⟨j + 1, by go_num, by rw [HN.out], by omega, HZB⟩
                        case measure => simp [intOf]; omega
                      | true =>
                        cases xr with
                        | false =>
                          have HN : Hid (FB (j + 1) = FB j) := Lib.hid (by have := HFX.out.1; simpa using this)
                          clear HFX HLS
                          go_wp2_with fail
                          go_roundw
                          case rel => exact ⟨j + 1, by go_num, by rw [HN.out], by omega, HZB⟩
                          case measure => simp [intOf]; omega
                        | true =>
                          by_cases h0 : xt = 0
                          · have hb0 : (xt != 0) = false := by simp [h0]
                            have HN : Hid (FB (j + 1) = FB j) := Lib.hid (by have := HFX.out.1; simpa [h0] using this)
                            clear HFX HLS h0
                            go_wp2_with fail
                            go_roundw
                            case rel => exact ⟨j + 1, by go_num, by rw [HN.out], by omega, HZB⟩
                            case measure => simp [intOf]; omega
                          · have hb0 : (xt != 0) = true := by simp [h0]
                            by_cases h1 : xt = ti
                            · have hb1 : (xt != ti) = false := by simp [h1]
                              have HN : Hid (FB (j + 1) = FB j) := Lib.hid (by have := HFX.out.1; simpa [h1] using this)
                              clear HFX HLS h0 h1
                              go_wp2_with fail
                              go_roundw
                              case rel => exact ⟨j + 1, by go_num, by rw [HN.out], by omega, HZB⟩
                              case measure => simp [intOf]; omega
                            · have hb1 : (xt != ti) = true := by simp [h1]
                              go_wp2_with fail
                              refine HLS.out.mono ?_
                              rintro e w7 ⟨rfl, ha7⟩
                              have HZ7 : Hid (Aft Y w7) := Lib.hid (HZB.out.trans ha7)
                              clear ha7 k0 k1 k2 k9 m0 m1 m2 m3 m9 c0 c1 hbl HLS
                              cases lb with
                              | false =>
                                have HN : Hid (FB (j + 1) = FB j) := Lib.hid (by have := HFX.out.1; simpa using this)
                                clear HFX h0 h1 hb0 hb1
                                go_wp2_with fail
                                go_roundw
                                case rel => exact ⟨j + 1, by go_num, by rw [HN.out], by omega, HZ7⟩
                                case measure => simp [intOf]; omega
                              | true =>
                                have HN : Hid (FB (j + 1) = FB j + 1 ∧ FB j ≤ 100) := Lib.hid ⟨by have := HFX.out.1; simpa [h0, h1] using this, HFX.out.2⟩
                                have hw : IntKind.i64.wrap (((FB j : Nat) : Int) + 1) = ((FB (j + 1) : Nat) : Int) := by have h3 := HN.out.1; have h4 := HN.out.2; rw [IntKind.wrap_i64] <;> omega
                                clear HFX h0 h1 hb0 hb1 HN
                                go_wp2_with fail
                                go_roundw
                                case rel => exact ⟨j + 1, by go_num, by first | rfl | rw [hw] | simp [hw], by omega, HZ7⟩
                                case measure => simp [intOf]; omega
                    · have hje : j = tn := by omega
                      have HR : Hid (Aft w3 wB) := Lib.hid (HAY.out.trans HW.out)
                      have hmm : ((m : Int) != (m : Int)) = false := by simp
                      rw [hje, HFE.out.2]
                      clear HW hlt2 hj
                      have hjI : ¬ (tn : Int) < (tn : Int) := by omega
                      go_wp2_with fail
                      go_roundw
                      case rel => exact ⟨k + 1, by go_num, by omega, HR⟩
                      case measure => simp [intOf]; omega
            · have HAE : Hid (Aft w3 wA) := HW
              obtain ⟨⟨c0, c1⟩, hbl⟩ := HC.out wA (HA3.out.trans HW.out)
              clear HW hk
              have hlt : ¬ k < n1 := hlt
              go_wp2_with fail
              clear c0 c1 hbl hlt
              go_loopw [175] (fun s175 wr => ∃ k : Nat, s175 = .int .i64 (k : Int) ∧ k ≤ n2 ∧ Hid (Aft w3 wr)) (fun s175 _ => n2 - (intOf s175).toNat)
              case atStart => exact ⟨0, rfl, Nat.zero_le _, HAE⟩
              case round =>
                clear HAE
                obtain ⟨k, rfl, hk, HW⟩ := hrel
                obtain ⟨wA, hwA⟩ : ∃ wA, wA = wr := ⟨_, rfl⟩
                subst hwA
                by_cases hlt : k < n2
                · have hltx : k < h.ords.length := by rw [← HN2.out]; exact hlt
                  obtain ⟨g, o, sp, sc, e1, hg, c0, c1, hs⟩ := (show Ords w3 (.slice q h.ords.length d) h.ords from by have := HOX.out; rw [HN2.out] at this; exact this).at_ hltx
                  have c0 := HW.out.cell hg c0
                  have c1 := HW.out.cell hg c1
                  have hg := Nat.lt_of_lt_of_le hg HW.out.size
                  subst e1
                  have hkI : (k : Int) < (n2 : Int) := by omega
                  have HWK := Lib.hid (HWS.out _ (getD_memo hltx))
                  have HLN2 := Lib.hid (HS.out.1.ids _ (getD_memo hltx))
                  generalize h.ords.getD k Ordr.zero = t at c0 c1 hs HWK HLN2
                  obtain ⟨ok, ol⟩ := t
                  simp only at c0 c1 hs HWK HLN2
                  obtain ⟨m, hm⟩ : ∃ m, m = ol.length := ⟨_, rfl⟩
                  rw [← hm] at c1 HWK
                  obtain ⟨Y, hY⟩ : ∃ Y, Y = wA.alloc (.cells #[.int .i64 ok, .slice sp m sc] 45) := ⟨_, rfl⟩
                  have HAY : Hid (Aft w3 Y) := Lib.hid (by rw [hY]; exact HW.out.lay _)
                  have HYB : Hid (Y.heap[wA.heap.size]? = some (.cells #[.int .i64 ok, .slice sp m sc] 45)) := Lib.hid (by rw [hY]; exact heap_alloc_at _ _ _ rfl)
                  have HZY : Hid (∀ Z, Aft Y Z → (Z.cell? ⟨wA.heap.size, 0, none⟩ = some (.int .i64 ok) ∧ Z.cell? ⟨wA.heap.size, 1, none⟩ = some (.slice sp m sc)) ∧ wA.heap.size < Z.heap.size) := Lib.hid fun Z hZ => by
                    have e := (hZ.block _ (heap_lt HYB.out)).trans HYB.out
                    exact ⟨by simp [World.cell?, e], heap_lt e⟩
                  obtain ⟨TA, hTA⟩ : ∃ f : Nat → Nat, f = fun j => 1 + tot (isWW ok) (l.take j) := ⟨_, rfl⟩
                  have HTJ : Hid (∀ j, j < ln → TA (j + 1) = TA j + (if isWW ok (l.getD j Hvy.zero) = true then (l.getD j Hvy.zero).n.toNat else 0) ∧ TA j ≤ 300000000 * 1000000 + 1) := Lib.hid fun j hj => by
                    rw [hTA]
                    have h1 := HTT.out (isWW ok) j hj
                    have h2 := HTB.out (isWW ok) j
                    exact ⟨by simp only; rw [h1]; omega, by simp only; omega⟩
                  have HTE : Hid (TA 0 = 1 ∧ TA ln = m) := Lib.hid ⟨by rw [hTA]; rfl, by
                    rw [hTA]
                    show 1 + tot (isWW ok) (l.take ln) = m
                    rw [HLN.out, List.take_length]; exact HWK.out⟩
                  have HI0 : Hid (Aft Y Y) := Lib.hid (Aft.refl _)
                  clear hs hm HW HLN2 HYB hTA HWK
                  go_upto_region 36 with fail
                  rw [← hY]
                  clear hY c0 c1
                  go_wp2_with fail
                  go_loopw [20, 181] (fun s20 s181 wr => ∃ j : Nat, s181 = .int .i64 (j : Int) ∧ s20 = .int .i64 ((TA j : Nat) : Int) ∧ j ≤ ln ∧ Hid (Aft Y wr)) (fun _ s181 _ => ln - (intOf s181).toNat)
                  case atStart => exact ⟨0, rfl, by rw [HTE.out.1]; rfl, Nat.zero_le _, HI0⟩
                  case round =>
                    clear HI0
                    obtain ⟨j, rfl, rfl, hj, HW⟩ := hrel
                    obtain ⟨wB, hwB⟩ : ∃ wB, wB = wr := ⟨_, rfl⟩
                    subst hwB
                    by_cases hlt2 : j < ln
                    · have haz := HAY.out.trans HW.out
                      obtain ⟨g, o, e1, _, hg, c0, c1, c2, c3, c4⟩ := HLC.out j hlt2
                      subst e1
                      have c0 := haz.cell hg c0
                      have c1 := haz.cell hg c1
                      have c2 := haz.cell hg c2
                      have c3 := haz.cell hg c3
                      have c4 := haz.cell hg c4
                      have hg := Nat.lt_of_lt_of_le hg haz.size
                      have hjI : (j : Int) < (ln : Int) := by omega
                      have HTX2 := Lib.hid (HTJ.out j hlt2)
                      have HNX := Lib.hid (HNB.out j hlt2)
                      generalize l.getD j Hvy.zero = x at c0 c1 c2 c3 c4 HTX2 HNX
                      obtain ⟨x0, x1, x2, x3, x4⟩ := x
                      unfold isWW at HTX2
                      dsimp only at c0 c1 c2 c3 c4 HTX2 HNX
                      obtain ⟨Z, hZ⟩ : ∃ Z, Z = wB.alloc (.cells #[.int .i64 x0, .int .i64 x1, .int .i64 x2, .int .i64 x3, .int .i64 x4] 33) := ⟨_, rfl⟩
                      have HZB : Hid (Aft Y Z) := Lib.hid (by rw [hZ]; exact HW.out.lay _)
                      have e : Z.heap[wB.heap.size]? = some (.cells #[.int .i64 x0, .int .i64 x1, .int .i64 x2, .int .i64 x3, .int .i64 x4] 33) := by rw [hZ]; exact heap_alloc_at _ _ _ rfl
                      have m : Z.cell? ⟨wB.heap.size, 0, none⟩ = some (.int .i64 x0) ∧ Z.cell? ⟨wB.heap.size, 1, none⟩ = some (.int .i64 x1) ∧ Z.cell? ⟨wB.heap.size, 2, none⟩ = some (.int .i64 x2) ∧ Z.cell? ⟨wB.heap.size, 3, none⟩ = some (.int .i64 x3) ∧ Z.cell? ⟨wB.heap.size, 4, none⟩ = some (.int .i64 x4) := by simp [World.cell?, e]
                      obtain ⟨m0, m1, m2, m3, m4⟩ := m
                      have hzl := heap_lt e
                      obtain ⟨⟨k0, k1⟩, k9⟩ := HZY.out Z HZB.out
                      clear HW haz e
                      go_upto_region 40 with fail
                      rw [← hZ]
                      clear hZ c0 c1 c2 c3 c4
                      by_cases h2 : x2 = 1
                      · have hb2 : (x2 == 1) = true := by simp [h2]
                        by_cases h1 : x3 = ok
                        · have hb1 : (x3 == ok) = true := by simp [h1]
                          have HN : Hid (TA (j + 1) = TA j + x4.toNat ∧ TA j ≤ 300000000 * 1000001) := Lib.hid ⟨by have := HTX2.out.1; simpa [h1, h2] using this, by have := HTX2.out.2; omega⟩
                          have hw : IntKind.i64.wrap (((TA j : Nat) : Int) + x4) = ((TA (j + 1) : Nat) : Int) := by have h3 := HN.out.1; have h4 := HN.out.2; have h5 := HNX.out; rw [IntKind.wrap_i64] <;> omega
                          clear h1 h2 HTX2 HNX HN
                          go_wp2_with fail
                          go_roundw
                          case rel => exact ⟨j + 1, by go_num, by first | rfl | rw [hw] | simp [hw], by omega, HZB⟩
                          case measure => simp [intOf]; omega
                        · have hb1 : (x3 == ok) = false := by simp [h1]
                          have HN : Hid (TA (j + 1) = TA j) := Lib.hid (by have := HTX2.out.1; simpa [h1] using this)
                          clear h1 h2 HTX2 HNX
                          go_wp2_with fail
                          go_roundw
                          case rel => exact ⟨j + 1, by go_num, by rw [HN.out], by omega, HZB⟩
                          case measure => simp [intOf]; omega
                      · have hb2 : (x2 == 1) = false := by simp [h2]
                        have HN : Hid (TA (j + 1) = TA j) := Lib.hid (by have := HTX2.out.1; simpa [h2] using this)
                        clear h2 HTX2 HNX
                        go_wp2_with fail
                        go_roundw
                        case rel => exact ⟨j + 1, by go_num, by rw [HN.out], by omega, HZB⟩
                        case measure => simp [intOf]; omega
                    · have hje : j = ln := by omega
                      have HR : Hid (Aft w3 wB) := Lib.hid (HAY.out.trans HW.out)
                      have hmm : ((m : Int) != (m : Int)) = false := by simp
                      obtain ⟨⟨k0, k1⟩, k9⟩ := HZY.out wB HW.out
                      rw [hje, HTE.out.2]
                      clear HW hlt2 hj
                      have hjI : ¬ (ln : Int) < (ln : Int) := by omega
                      go_wp2_with fail
                      go_roundw
                      case rel => exact ⟨k + 1, by go_num, by omega, HR⟩
                      case measure => simp [intOf]; omega
                · have HF : Hid (Post (.returned (.bool true)) wA) := Lib.hid (HE.out wA (HA3.out.trans HW.out))
                  clear HW
                  go_wp2_with fail
                  exact HF.out
end Go.Proofs.Ytcmafmdcgkpagaa.Dg
