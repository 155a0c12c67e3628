/-
  DsgParts: the walk. Not a statement of the seat.
-/
import Derived.Test.YtcmafmdcgkpagaaHead20
import Derived.Test.YtcmafmdcgkpagaaHead5
import Derived.Test.YtcmafmdcgkpagaaHead26
namespace Go.Proofs.Ytcmafmdcgkpagaa.Dg
open Go.ChangeShapes Go.WideShapes Go.ChangeAt Go.RowKit Base F Tx Hi Off
theorem light_sm16 {h : Hist} (ht : ∀ t ∈ h.txs, Txn.ok t) (ho : ∀ o ∈ h.ords, Ordr.ok o) (hl : lightB h = true) : HistSm h ∧ h.ords.length ≤ 24 ∧ h.txs.length ≤ 12 ∧ ∀ t ∈ h.txs, t.ops.length ≤ 24 := by
  obtain ⟨h1, h2, h3, h4⟩ := (lightB_iff h).1 hl
  exact ⟨⟨ht, ho, by omega, fun t hm => by have := h3 t hm; omega, fun o hm => by have := h4 o hm; omega⟩, h2, h1, h3⟩
/-- The keys that were met, and how many edges there are of them. -/
def MF (f : Int → Nat) (txs : List Txn) (ops : List Opr) (ms : List Int) (n : Nat) : Prop := ms.Nodup ∧ n = sm f ms ∧ (∀ t ∈ txs, ∀ o ∈ t.ops, o.k ∈ ms) ∧ ∀ o ∈ ops, o.k ∈ ms
theorem MF.start (f : Int → Nat) : MF f [] [] [] 0 := ⟨List.nodup_nil, rfl, (fun t ht => by cases ht), fun o ho => by cases ho⟩
theorem MF.skip {f : Int → Nat} {txs : List Txn} {ops : List Opr} {ms : List Int} {n : Nat} {o : Opr} (h : MF f txs ops ms n) (ho : o.k ∈ ms) : MF f txs (ops ++ [o]) ms n :=
  ⟨h.1, h.2.1, h.2.2.1, fun x hx => by
    rcases List.mem_append.1 hx with hx | hx
    · exact h.2.2.2 x hx
    · rw [List.mem_singleton] at hx; rw [hx]; exact ho⟩
theorem MF.more {f : Int → Nat} {txs : List Txn} {ops : List Opr} {ms : List Int} {n : Nat} {o : Opr} (h : MF f txs ops ms n) (ho : o.k ∉ ms) : MF f txs (ops ++ [o]) (ms ++ [o.k]) (n + f o.k) := by
  refine ⟨List.nodup_append.2 ⟨h.1, by simp, fun a ha b hb => ?_⟩, by rw [sm_append, ← h.2.1]; simp [sm], fun t ht x hx => List.mem_append_left _ (h.2.2.1 t ht x hx), fun x hx => ?_⟩
  · rw [List.mem_singleton] at hb
    rintro rfl
    exact ho (hb ▸ ha)
  · rcases List.mem_append.1 hx with hx | hx
    · exact List.mem_append_left _ (h.2.2.2 x hx)
    · rw [List.mem_singleton] at hx; rw [hx]; simp
theorem MF.next {f : Int → Nat} {txs : List Txn} {t : Txn} {ms : List Int} {n : Nat} (h : MF f txs t.ops ms n) : MF f (txs ++ [t]) [] ms n :=
  ⟨h.1, h.2.1, fun x hx o ho => by
    rcases List.mem_append.1 hx with hx | hx
    · exact h.2.2.1 x hx o ho
    · rw [List.mem_singleton] at hx; subst hx; exact h.2.2.2 o ho, fun o ho => by cases ho⟩
/-- What the walk holds. -/
def MW (f : Int → Nat) (B : Nat) (w3 : World) (txs : List Txn) (ops : List Opr) (b : Nat) (n : Nat) (vm : Value) (wr : World) : Prop := ∃ ms : List Int, MF f txs ops ms n ∧ ms.length ≤ b ∧ Lst.OwnI B wr vm ms ∧ Aft w3 wr
theorem MW.after {f : Int → Nat} {B : Nat} {w3 : World} {txs : List Txn} {ops : List Opr} {b n : Nat} {vm : Value} {wr W : World} (h : MW f B w3 txs ops b n vm wr) (ha : Aft wr W) : MW f B w3 txs ops b n vm W := by
  obtain ⟨ms, h1, h2, h3, h4⟩ := h
  exact ⟨ms, h1, h2, h3.below ha, h4.trans ha⟩
theorem MW.len {f : Int → Nat} {B : Nat} {w3 : World} {txs : List Txn} {ops : List Opr} {b n : Nat} {vm : Value} {wr : World} (h : MW f B w3 txs ops b n vm wr) (hf : ∀ k, f k ≤ 1000000) : n ≤ 1000000 * b := by
  obtain ⟨ms, h1, h2, _⟩ := h
  rw [h1.2.1]
  exact Nat.le_trans (sm_le f 1000000 ms fun k _ => hf k) (Nat.mul_le_mul_left _ h2)
set_option maxRecDepth 100000 in
set_option maxHeartbeats 16000000 in
theorem parts {v u : Value} {h : Hist} (w : World) (hh : HistV w v u h) (ht : ∀ t ∈ h.txs, Txn.ok t) (ho : ∀ o ∈ h.ords, Ordr.ok o) : Calls Try.prog 4 #[.agg #[v, u]] w (LivesP w) := by
  obtain ⟨p, c, hv, _⟩ := hh.1.form
  obtain ⟨q, d, hu, _⟩ := hh.2.form
  subst hv hu
  have HSM := Lib.hid (fun e : lightB h = true => light_sm16 ht ho e)
  have HH := Lib.hid hh
  obtain ⟨n1, hn1⟩ : ∃ n, n = h.txs.length := ⟨_, rfl⟩
  obtain ⟨n2, hn2⟩ : ∃ n, n = h.ords.length := ⟨_, rfl⟩
  rw [← hn1, ← hn2] at HH
  rw [← hn1, ← hn2]
  have HN1 := Lib.hid hn1
  clear hh ht ho hn1 hn2
  obtain ⟨X, hX⟩ : ∃ X, X = w.alloc (.cells #[.slice p n1 c, .slice q n2 d] 25) := ⟨_, rfl⟩
  have HA : Hid (Aft w X) := Lib.hid (by rw [hX]; exact Aft.one _)
  have HC : Hid (∀ Z, Aft X Z → (Z.cell? ⟨w.heap.size, 0, none⟩ = some (.slice p n1 c) ∧ Z.cell? ⟨w.heap.size, 1, none⟩ = some (.slice q n2 d)) ∧ w.heap.size < Z.heap.size) := Lib.hid fun Z hZ => by
    have e : X.heap[w.heap.size]? = some (.cells #[.slice p n1 c, .slice q n2 d] 25) := by rw [hX]; exact heap_alloc_at _ _ _ rfl
    have k := (hZ.block _ (heap_lt e)).trans e
    exact ⟨by simp [World.cell?, k], heap_lt k⟩
  have HV : Hid (∀ W, Aft X W → HistV W (.slice p n1 c) (.slice q n2 d) h) := Lib.hid fun W hW => HH.out.below (HA.out.trans hW)
  have HL : Hid (∀ W, Aft X W → Calls Try.prog 6 #[.agg #[.slice p n1 c, .slice q n2 d]] W (BoolNew (lightB h) W)) := Lib.hid fun W hW => rlight_any W (HV.out W hW)
  have HE : Hid (∀ W, Aft X W → LivesP w (.returned (.bool true)) W) := Lib.hid fun W hW => ⟨rfl, HA.out.trans hW⟩
  generalize LivesP w = Post at HE ⊢
  generalize lightB h = lb at HSM HL
  go_enter Try.func4, Try.ntmps4
  go_upto_region 1 with fail
  rw [← hX]
  clear hX HH
  go_wp2_with fail
  refine (lives X).mono ?_
  rintro e w1 ⟨rfl, ha⟩
  have HA1 := Lib.hid ha
  obtain ⟨⟨c0, c1⟩, hbl⟩ := HC.out w1 ha
  clear ha
  cases lb with
  | false =>
    clear HSM
    go_wp2_with fail
    refine (HL.out w1 HA1.out).mono ?_
    rintro e w2 ⟨rfl, ha⟩
    have HF := Lib.hid (HE.out w2 (HA1.out.trans ha))
    clear ha HL HC HV HE c0 c1 hbl HA1
    go_wp2_with fail
    exact HF.out
  | true =>
    have HS := Lib.hid (HSM.out rfl)
    clear HSM
    have HED : Hid (∀ W, Aft X W → Calls Try.prog 8 #[.agg #[.slice p n1 c, .slice q n2 d]] W (HvP (cntE h fun _ => true) 1000000 W)) := Lib.hid fun W hW => edges_any W (HV.out W hW) HS.out.1 (by have := HS.out.2.1; omega)
    have HOF : Hid (∀ W key, Aft X W → Calls Try.prog 13 #[.agg #[.slice p n1 c, .slice q n2 d], .int .i64 key] W (HvP (cntE h fun k => k == key) 1000000 W)) := Lib.hid fun W key hW => of_any W (HV.out W hW) HS.out.1 (by have := HS.out.2.1; omega) key
    have HCT : Hid (∀ W, Aft X W → ∀ e : Edg, Edg.ok e → Calls Try.prog 14 #[.agg #[.slice p n1 c, .slice q n2 d], .agg #[.int .i64 e.f, .int .i64 e.t, .int .i64 e.kd, .int .i64 e.k]] W (IntNew ((cntE h (fun k => k == e.k) e : Nat) : Int) W)) := Lib.hid fun W hW e he => Count_any W (HV.out W hW) HS.out.1 e he
    have HT : Hid (∀ W, Aft X W → Txs W (.slice p n1 c) h.txs) := Lib.hid fun W hW => (HV.out W hW).1
    have hn12 : n1 ≤ 12 := by have := HS.out.2.2.1; have := HN1.out; omega
    go_wp2_with fail
    refine (HL.out w1 HA1.out).mono ?_
    rintro e w2 ⟨rfl, ha⟩
    have HA2 := Lib.hid (HA1.out.trans ha)
    clear ha HL c0 c1 hbl HA1
    obtain ⟨⟨c0, c1⟩, hbl⟩ := HC.out w2 HA2.out
    go_wp2_with fail
    refine (HED.out w2 HA2.out).mono ?_
    rintro e w3 ⟨vl, l, rfl, hli, hll, hlo, ha⟩
    have HA3 := Lib.hid (HA2.out.trans ha)
    have HLI := Lib.hid hli
    obtain ⟨lp, lc, hvl, _, hlc⟩ := (hlo.list (by omega)).open_
    subst hvl
    have HLC := Lib.hid hlc
    clear ha hli hlo hlc HED c0 c1 hbl HA2
    obtain ⟨⟨c0, c1⟩, hbl⟩ := HC.out w3 HA3.out
    obtain ⟨f, hf⟩ : ∃ f : Int → Nat, f = fun key => (l.filter fun x => x.k == key).length := ⟨_, rfl⟩
    have HFB : Hid (∀ k, f k ≤ 1000000) := Lib.hid fun k => by rw [hf]; exact Nat.le_trans (List.length_filter_le _ _) hll
    have HOF2 : Hid (∀ W key, Aft X W → Calls Try.prog 13 #[.agg #[.slice p n1 c, .slice q n2 d], .int .i64 key] W (fun e w' => ∃ p c, e = .returned (.slice p (f key) c) ∧ Aft W w')) := Lib.hid fun W key hW => (HOF.out W key hW).mono fun e w' ⟨v, m, he, h1, h2, h3, h4⟩ => by
      have hm : m = l.filter fun x => x.k == key := HLI.out.key h1
      obtain ⟨p, c, hv, _⟩ := (h3.list (by omega)).open_
      exact ⟨p, c, by rw [he, hv, hf, hm], h4⟩
    have HPS : Hid (∀ ms : List Int, ms.Nodup → (∀ t ∈ h.txs, ∀ o ∈ t.ops, o.k ∈ ms) → sm f ms = l.length) := Lib.hid fun ms h1 h2 => by
      rw [hf]
      refine parts_sum h1 fun x hx => ?_
      obtain ⟨t, ht, o, ho, hk⟩ := cnt_keyop (HLI.out.mem hx).2
      have := h2 t ht o ho
      rw [hk] at this
      exact this
    have HKC : Hid (∀ k, k < l.length → Edg.ok (edH (l.getD k Hvy.zero)) ∧ ((cntE h (fun z => z == (edH (l.getD k Hvy.zero)).k) (edH (l.getD k Hvy.zero)) : Nat) : Int) = (l.getD k Hvy.zero).n) := Lib.hid fun k hk => by
      obtain ⟨h1, h2⟩ := HLI.out.mem (getD_mem' Hvy.zero hk)
      exact ⟨cnt_ok HS.out.1 h2, by rw [cnt_key, if_pos rfl, h1]⟩
    clear HOF hf HLI
    obtain ⟨ln, hln⟩ : ∃ n, n = l.length := ⟨_, rfl⟩
    have HLN := Lib.hid hln
    rw [← hln] at hll HLC HPS HKC ⊢
    clear hln
    have HM0 : Hid (MW f w3.heap.size w3 (h.txs.take 0) [] (24 * 0) 0 (.slice none 0 0) w3) := Lib.hid ⟨[], by simpa using MF.start f, by simp, Lst.OwnI.nil _ _, Aft.refl _⟩
    go_wp2_with fail
    clear c0 c1 hbl
    go_loopw [4, 5, 22] (fun s4 s5 s22 wr => ∃ (k n : Nat) (vm : Value), s22 = .int .i64 (k : Int) ∧ s4 = .int .i64 (n : Int) ∧ vm = s5 ∧ k ≤ n1 ∧ Hid (MW f w3.heap.size w3 (h.txs.take k) [] (24 * k) n vm wr)) (fun _ _ s22 _ => n1 - (intOf s22).toNat)
    case atStart => exact ⟨0, 0, _, rfl, rfl, rfl, Nat.zero_le _, HM0⟩
    case round =>
      clear HM0
      obtain ⟨k, n, vm, rfl, rfl, hvm, hk, HW⟩ := hrel
      subst hvm
      obtain ⟨wA, hwA⟩ : ∃ wA, wA = wr := ⟨_, rfl⟩
      subst hwA
      by_cases hlt : k < n1
      · have HAA : Hid (Aft w3 wA) := Lib.hid (by obtain ⟨_, _, _, _, h⟩ := HW.out; exact h)
        have hltx : k < h.txs.length := by rw [← HN1.out]; exact hlt
        obtain ⟨g, o, sp, sc, e1, hg, c0, c1, c2, hs⟩ := (show Txs w3 (.slice p h.txs.length c) h.txs from by have := HT.out w3 HA3.out; rw [HN1.out] at this; exact this).at_ hltx
        have c0 := HAA.out.cell hg c0
        have c1 := HAA.out.cell hg c1
        have c2 := HAA.out.cell hg c2
        have hg := Nat.lt_of_lt_of_le hg HAA.out.size
        subst e1
        have hkI : (k : Int) < (n1 : Int) := by omega
        have HTK : Hid (h.txs.take (k + 1) = h.txs.take k ++ [h.txs.getD k Txn.zero]) := Lib.hid (Tx.take_snoc _ _ _ hltx)
        have HLK := Lib.hid (HS.out.2.2.2 _ (getD_mem hltx))
        generalize h.txs.getD k Txn.zero = t at c0 c1 c2 hs HTK HLK
        obtain ⟨ti, td, tl⟩ := t
        simp only at c0 c1 c2 hs HLK
        have HOP : Hid (∀ Z, Aft w3 Z → Oprs 0 Z (.slice sp tl.length sc) tl) := Lib.hid fun Z hZ => (hs.below hZ).2
        obtain ⟨tn, htn⟩ : ∃ n, n = tl.length := ⟨_, rfl⟩
        have HTN := Lib.hid htn
        have htl : tn ≤ 24 := by have := HLK.out; omega
        rw [← htn] at c2 HOP
        have HM1 : Hid (MW f w3.heap.size w3 (h.txs.take k) (tl.take 0) (24 * k + 0) n vm (wA.alloc (.cells #[.int .i64 ti, .bool td, .slice sp tn sc] 36))) := Lib.hid (by simpa using HW.out.after (Aft.one _))
        clear hs htn HW HLK
        go_wp2_with fail
        clear c0 c1 c2
        go_loopw [4, 5, 29] (fun s4 s5 s29 wi => ∃ (j n : Nat) (vm : Value), s29 = .int .i64 (j : Int) ∧ s4 = .int .i64 (n : Int) ∧ vm = s5 ∧ j ≤ tn ∧ Hid (MW f w3.heap.size w3 (h.txs.take k) (tl.take j) (24 * k + j) n vm wi)) (fun _ _ s29 _ => tn - (intOf s29).toNat)
        case atStart => exact ⟨0, n, _, rfl, rfl, rfl, Nat.zero_le _, HM1⟩
        case round =>
          clear HM1
          obtain ⟨j, n, vm, rfl, rfl, hvm, hj, HW⟩ := hrel
          subst hvm
          obtain ⟨wB, hwB⟩ : ∃ wB, wB = wr := ⟨_, rfl⟩
          subst hwB
          by_cases hlt2 : j < tn
          · have hltl : j < tl.length := by rw [← HTN.out]; exact hlt2
            have HAB : Hid (Aft w3 wB) := Lib.hid (by obtain ⟨_, _, _, _, h⟩ := HW.out; exact h)
            obtain ⟨p', c', e, _, hc⟩ := (HOP.out _ HAB.out).open_
            injection e with e1 e2 e3
            subst e1 e3
            clear e2
            obtain ⟨g2, o2, rfl, _, hg2, d0, d1, d2, d3⟩ := hc j hltl
            clear hc
            have hjI : (j : Int) < (tn : Int) := by omega
            have HTJ : Hid (tl.take (j + 1) = tl.take j ++ [tl.getD j Opr.zero]) := Lib.hid (Tx.take_snoc _ _ _ hltl)
            generalize tl.getD j Opr.zero = x at d0 d1 d2 d3 HTJ
            obtain ⟨xr, xk, xt, xn⟩ := x
            dsimp only at d0 d1 d2 d3
            obtain ⟨Y, hY⟩ : ∃ Y, Y = wB.alloc (boxO ⟨xr, xk, xt, xn⟩) := ⟨_, rfl⟩
            have HYO : Hid (Y.heap[wB.heap.size]? = some (boxO ⟨xr, xk, xt, xn⟩)) := Lib.hid (by rw [hY]; exact heap_alloc_at _ _ _ rfl)
            have HMY : Hid (MW f w3.heap.size w3 (h.txs.take k) (tl.take j) (24 * k + j) n vm Y) := Lib.hid (by rw [hY]; exact HW.out.after (Aft.one _))
            have HMB := HW
            have HNB : Hid (n ≤ 1000000 * 10000) := Lib.hid (Nat.le_trans (HW.out.len HFB.out) (Nat.mul_le_mul_left _ (by omega)))
            have HWS : Hid (wB.heap.size < Y.heap.size) := Lib.hid (heap_lt HYO.out)
            obtain ⟨_, ⟨i0, i1, i2, i3⟩, _⟩ := cellsO HYO.out
            have hyl := HWS.out
            clear HW
            unfold boxO at hY
            go_upto_region 14 with fail
            rw [← hY]
            clear hY d0 d1 d2 d3
            obtain ⟨ms, hmf, hml, hmo, hma⟩ := id HMY.out
            have HAY := Lib.hid hma
            have HIN := Lib.hid (Or.in_any xk Y (Lst.OwnI.ints hmo (by omega)))
            by_cases hin : xk ∈ ms
            · have HR : Hid (MW f w3.heap.size w3 (h.txs.take k) (tl.take (j + 1)) (24 * k + (j + 1)) n vm Y) := Lib.hid (by rw [HTJ.out]; exact ⟨ms, hmf.skip hin, by omega, hmo, hma⟩)
              have hdi : decide (xk ∈ ms) = true := decide_eq_true hin
              rw [hdi] at HIN
              clear hmf hml hmo hma hin hdi HMY
              go_wp2_with fail
              refine HIN.out.mono ?_
              rintro e w6 ⟨rfl, rfl⟩
              clear HIN
              go_wp2_with fail
              go_roundw
              case rel => exact ⟨j + 1, n, _, by go_num, rfl, rfl, by omega, HR⟩
              case measure => simp [intOf]; omega
            · have hdi : decide (xk ∈ ms) = false := decide_eq_false hin
              rw [hdi] at HIN
              obtain ⟨pv, mv, cv, hvm⟩ : ∃ p m c, vm = .slice p m c := by
                rcases hmo.form with ⟨_, hv⟩ | ⟨g, cap, hv, _⟩
                · exact ⟨_, _, _, hv⟩
                · exact ⟨_, _, _, hv⟩
              subst hvm
              have HO : Hid (Lst.OwnI w3.heap.size Y (.slice pv mv cv) ms ∧ w3.heap.size ≤ Y.heap.size ∧ ms.length ≤ 1000) := Lib.hid ⟨hmo, hma.size, by omega⟩
              have HR0 : Hid (∀ w5 v5, Lst.OwnI w3.heap.size w5 v5 (ms ++ [xk]) → (Y.alloc (.cells #[.int .i64 xk] 3)).grownBy w5 (Value.slice pv mv cv).ownBlock → (Aft w3 w5 ∧ MW f w3.heap.size w3 (h.txs.take k) (tl.take (j + 1)) (24 * k + (j + 1)) (n + f xk) v5 w5) ∧ w5.heap[wB.heap.size]? = some (boxO ⟨xr, xk, xt, xn⟩)) := Lib.hid fun w5 v5 h5 hg5 => by
                have hyb : ∀ g, (Value.slice pv mv cv).ownBlock = some g → w3.heap.size ≤ g ∧ g < wB.heap.size := fun g hg => by
                  have hlo := World.ownsRow.lt hmo g hg
                  refine ⟨hlo.1, Nat.lt_of_not_le fun hge => ?_⟩
                  obtain ⟨_, _, _, hmoB, _⟩ := HMB.out
                  have := World.ownsRow.lt hmoB g hg
                  omega
                have ha5 : Aft w3 w5 := (hma.trans (Aft.one _)).grown hg5 (by have := hma.size; simp only [World.size_alloc]; omega) (fun g e => (hyb g e).1)
                refine ⟨⟨ha5, ?_⟩, ?_⟩
                · rw [HTJ.out]
                  exact ⟨ms ++ [xk], hmf.more hin, by simp; omega, h5, ha5⟩
                · refine (hg5.block _ (by have := HWS.out; simp only [World.size_alloc]; omega) (fun e => by have := (hyb _ e.symm).2; omega)).trans ((Below.heap_alloc _ _ _ HWS.out).trans HYO.out)
              clear hmf hml hmo hma hin hdi HMY
              go_wp2_with fail
              refine HIN.out.mono ?_
              rintro e w6 ⟨rfl, rfl⟩
              clear HIN
              go_wp2_with (at_builtin; refine Lst.append_ints rfl (.tmp 38) (.tmp 41) rfl (B := w3.heap.size) (by have := HO.out.2.1; simp only [World.size_alloc]; omega) (HO.out.1.below (Aft.one _)) rfl (Lst.int_lit xk _) (fun n c e => by cases e) rfl (by have := HO.out.2.2; simp only [List.length_cons, List.length_nil]; omega) ?_; intro v5 w5 h5 hg5 hat5; have HR5 := Lib.hid (HR0.out w5 v5 h5 hg5); obtain ⟨⟨k0, k1⟩, hkl⟩ := HC.out w5 (HA3.out.trans HR5.out.1.1); obtain ⟨hl5, ⟨m0, m1, m2, m3⟩, _⟩ := cellsO HR5.out.2; clear h5 hg5 hat5 i0 i1 i2 i3 hyl)
              refine (HOF2.out w5 xk (HA3.out.trans HR5.out.1.1)).mono ?_
              rintro e w6 ⟨p6, c6, rfl, ha6⟩
              have HR6 : Hid (MW f w3.heap.size w3 (h.txs.take k) (tl.take (j + 1)) (24 * k + (j + 1)) (n + f xk) v5 w6) := Lib.hid (HR5.out.1.2.after ha6)
              have hw : IntKind.i64.wrap ((n : Int) + (f xk : Int)) = ((n + f xk : Nat) : Int) := by rw [IntKind.wrap_i64] <;> (have := HNB.out; have := HFB.out xk; omega)
              clear ha6 HR5 HR0 k0 k1 hkl hl5 m0 m1 m2 m3
              go_wp2_with fail
              go_roundw
              case rel => exact ⟨j + 1, n + f xk, _, by go_num, by first | rfl | rw [hw] | simp [hw], rfl, by omega, HR6⟩
              case measure => simp [intOf]; omega
          · have hje : j = tn := by omega
            have HR : Hid (MW f w3.heap.size w3 (h.txs.take (k + 1)) [] (24 * (k + 1)) n vm wB) := Lib.hid (by
              obtain ⟨ms, h1, h2, h3, h4⟩ := HW.out
              rw [hje, HTN.out, List.take_length] at h1
              rw [HTK.out]
              exact ⟨ms, MF.next (t := ⟨ti, td, tl⟩) h1, by omega, h3, h4⟩)
            clear HW hje
            go_wp2_with fail
            go_roundw
            case rel => exact ⟨k + 1, n, _, by go_num, rfl, rfl, by omega, HR⟩
            case measure => simp [intOf]; omega
      · have hke : k = n1 := by omega
        have HNF : Hid (n = ln ∧ Aft w3 wA) := Lib.hid (by
          obtain ⟨ms, h1, h2, h3, h4⟩ := HW.out
          rw [hke, HN1.out, List.take_length] at h1
          exact ⟨by rw [h1.2.1]; exact HPS.out ms h1.1 h1.2.2.1, h4⟩)
        obtain rfl := HNF.out.1
        have HNA := Lib.hid HNF.out.2
        clear HW hke HNF HPS HOF2
        go_wp2_with fail
        go_loopw [54] (fun s54 wr => ∃ k : Nat, s54 = .int .i64 (k : Int) ∧ k ≤ n ∧ Hid (Aft w3 wr)) (fun s54 _ => n - (intOf s54).toNat)
        case atStart => exact ⟨0, rfl, Nat.zero_le _, HNA⟩
        case round =>
          clear HNA
          obtain ⟨k, rfl, hk, HW⟩ := hrel
          obtain ⟨wB, hwB⟩ : ∃ wB, wB = wr := ⟨_, rfl⟩
          subst hwB
          by_cases hlt : k < n
          · obtain ⟨g, o, rfl, _, hg, c0, c1, c2, c3, c4⟩ := HLC.out k hlt
            have c0 := HW.out.cell hg c0
            have c1 := HW.out.cell hg c1
            have c2 := HW.out.cell hg c2
            have c3 := HW.out.cell hg c3
            have c4 := HW.out.cell hg c4
            have hg := Nat.lt_of_lt_of_le hg HW.out.size
            have hkI : (k : Int) < (n : Int) := by omega
            have HKX := Lib.hid (HKC.out k hlt)
            generalize l.getD k Hvy.zero = x at c0 c1 c2 c3 c4 HKX
            obtain ⟨x0, x1, x2, x3, x4⟩ := x
            dsimp only at c0 c1 c2 c3 c4
            unfold edH at HKX
            dsimp only at HKX
            obtain ⟨Z, hZ⟩ : ∃ Z, Z = wB.alloc (.cells #[.int .i64 x0, .int .i64 x1, .int .i64 x2, .int .i64 x3, .int .i64 x4] 33) := ⟨_, rfl⟩
            obtain ⟨Y, hY⟩ : ∃ Y, Y = Z.drew := ⟨_, rfl⟩
            have HAY : Hid (Aft w3 Y) := Lib.hid (by rw [hY, hZ]; exact (HW.out.lay _).drew 1)
            have HBC : Hid (∀ W, Aft Y W → (W.cell? ⟨w.heap.size, 0, none⟩ = some (.slice p n1 c) ∧ W.cell? ⟨w.heap.size, 1, none⟩ = some (.slice q n2 d)) ∧ W.cell? ⟨wB.heap.size, 0, none⟩ = some (.int .i64 x0) ∧ W.cell? ⟨wB.heap.size, 1, none⟩ = some (.int .i64 x1) ∧ W.cell? ⟨wB.heap.size, 2, none⟩ = some (.int .i64 x2) ∧ W.cell? ⟨wB.heap.size, 3, none⟩ = some (.int .i64 x3) ∧ W.cell? ⟨wB.heap.size, 4, none⟩ = some (.int .i64 x4)) := Lib.hid fun W hW => by
              have e : Y.heap[wB.heap.size]? = some (.cells #[.int .i64 x0, .int .i64 x1, .int .i64 x2, .int .i64 x3, .int .i64 x4] 33) := by rw [hY, hZ]; exact heap_alloc_at _ _ _ rfl
              have k0 := (hW.block _ (heap_lt e)).trans e
              refine ⟨(HC.out W (HA3.out.trans (HAY.out.trans hW))).1, ?_⟩
              simp [World.cell?, k0]
            have HCN : Hid (Calls Try.prog 14 #[.agg #[.slice p n1 c, .slice q n2 d], .agg #[.int .i64 x0, .int .i64 x1, .int .i64 x2, .int .i64 x3]] Y (IntNew x4 Y)) := Lib.hid (by
              have := HCT.out Y (HA3.out.trans HAY.out) ⟨x0, x1, x2, x3⟩ HKX.out.1
              rw [HKX.out.2] at this
              exact this)
            have hne : (x4 != x4) = false := by simp
            have H0 := Lib.hid (HBC.out Y (Aft.refl _))
            clear HW HKX
            go_upto_region 22 with fail
            rw [← hZ]
            clear hZ c0 c1 c2 c3 c4
            refine wp_region_held_drew (S := fun W => (W.cell? ⟨w.heap.size, 0, none⟩ = some (.slice p n1 c) ∧ W.cell? ⟨w.heap.size, 1, none⟩ = some (.slice q n2 d)) ∧ W.cell? ⟨wB.heap.size, 0, none⟩ = some (.int .i64 x0) ∧ W.cell? ⟨wB.heap.size, 1, none⟩ = some (.int .i64 x1) ∧ W.cell? ⟨wB.heap.size, 2, none⟩ = some (.int .i64 x2) ∧ W.cell? ⟨wB.heap.size, 3, none⟩ = some (.int .i64 x3) ∧ W.cell? ⟨wB.heap.size, 4, none⟩ = some (.int .i64 x4)) (by kernel_rfl) (hY ▸ H0.out) (fun hHeld0 => ?_)
            rw [← hY] at hHeld0 ⊢
            clear hY
            refine wpAnyH_take (i := 0) (v := ?_) rfl (by kernel_rfl) (by kernel_rfl) (by kernel_rfl) (fun _ _ _ h => h) (Or.inl ⟨by rfl, ?yz1⟩) (by assumption) ?qz1
            case yz1 => (intro wz hSw; (try dsimp only at hSw); go_simp <;> with_reducible rfl)
            try simp only [Act.put, List.getElem_toArray, List.getElem_cons_zero, List.setIfInBounds_toArray, List.set_cons_zero, List.set_cons_succ]
            refine wpAnyH_take (i := 1) (v := ?_) rfl (by kernel_rfl) (by kernel_rfl) (by kernel_rfl) (fun _ _ _ h => h) (Or.inl ⟨by rfl, ?yz2⟩) (by assumption) ?qz2
            case yz2 => (intro wz hSw; (try dsimp only at hSw); go_simp <;> with_reducible rfl)
            try simp only [Act.put, List.getElem_toArray, List.getElem_cons_zero, List.getElem_cons_succ, List.setIfInBounds_toArray, List.set_cons_zero, List.set_cons_succ]
            refine wpAnyH_take (i := 2) (v := ?_) rfl (by kernel_rfl) (by kernel_rfl) (by kernel_rfl) (fun _ _ _ h => h) (Or.inl ⟨by rfl, ?yz3⟩) (by assumption) ?qz3
            case yz3 => (intro wz hSw; (try dsimp only at hSw); go_simp <;> with_reducible rfl)
            try simp only [Act.put, List.getElem_toArray, List.getElem_cons_zero, List.getElem_cons_succ, List.setIfInBounds_toArray, List.set_cons_zero, List.set_cons_succ]
            refine wpAnyH_take (i := 4) (v := ?_) rfl (by kernel_rfl) (by kernel_rfl) (by kernel_rfl) (fun _ _ _ h => h) (Or.inl ⟨by rfl, ?yz4⟩) (by assumption) ?qz4
            case yz4 => (intro wz hSw; (try dsimp only at hSw); go_simp <;> with_reducible rfl)
            try simp only [Act.put, List.getElem_toArray, List.getElem_cons_zero, List.getElem_cons_succ, List.setIfInBounds_toArray, List.set_cons_zero, List.set_cons_succ]
            refine wpAnyH_take (i := 5) (v := ?_) rfl (by kernel_rfl) (by kernel_rfl) (by kernel_rfl) (fun _ _ _ h => h) (Or.inl ⟨by rfl, ?yz5⟩) (by assumption) ?qz5
            case yz5 => (intro wz hSw; (try dsimp only at hSw); go_simp <;> with_reducible rfl)
            try simp only [Act.put, List.getElem_toArray, List.getElem_cons_zero, List.getElem_cons_succ, List.setIfInBounds_toArray, List.set_cons_zero, List.set_cons_succ]
            refine wpAnyH_ready (rs := [3]) (by kernel_rfl) (by simp) ?_
            refine AllReadyH.cons rfl (fun K hK => ?_) AllReadyH.nil
            go_simp
            refine HCN.out.mono ?_
            rintro e w5 ⟨rfl, ha⟩
            have HA5 : Hid (Aft Y w5) := Lib.hid ha
            clear ha
            refine hK.out _ _ (HBC.out _ HA5.out) (fun hHeld6 => ?_)
            clear hK K
            try simp only [Act.put, List.getElem_toArray, List.getElem_cons_zero, List.getElem_cons_succ, List.setIfInBounds_toArray, List.set_cons_zero, List.set_cons_succ]
            refine wpAnyH_take (i := 6) (v := ?_) rfl (by kernel_rfl) (by kernel_rfl) (by kernel_rfl) (fun _ _ _ h => h) (Or.inl ⟨by rfl, ?yz7⟩) (by assumption) ?qz7
            case yz7 => (intro wz hSw; (try dsimp only at hSw); go_simp <;> with_reducible rfl)
            try simp only [Act.put, List.getElem_toArray, List.getElem_cons_zero, List.getElem_cons_succ, List.setIfInBounds_toArray, List.set_cons_zero, List.set_cons_succ]
            refine wpAnyH_done (by kernel_rfl) ?_ _
            have HR : Hid (Aft w3 w5) := Lib.hid (HAY.out.trans HA5.out)
            go_wp2_with fail
            go_roundw
            case rel => exact ⟨k + 1, by go_num, by omega, HR⟩
            case measure => simp [intOf]; omega
          · have HF : Hid (Post (.returned (.bool true)) wB) := Lib.hid (HE.out wB (HA3.out.trans HW.out))
            clear HW
            go_wp2_with fail
            exact HF.out
end Go.Proofs.Ytcmafmdcgkpagaa.Dg
