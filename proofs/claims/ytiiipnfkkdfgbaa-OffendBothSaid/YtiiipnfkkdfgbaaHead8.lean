/-
  Contracts of small functions, several texts laid into one. Not a statement of the seat.
-/
import Derived.Test.YtiiipnfkkdfgbaaOfW
import Derived.Test.YtiiipnfkkdfgbaaHead16
import Derived.Test.YtiiipnfkkdfgbaaHiL
namespace Go.Proofs.Ytiiipnfkkdfgbaa.Off
open Go.ChangeShapes Go.WideShapes Go.ChangeAt Go.RowKit Base F Tx Hi
theorem sm_ok {h : Hist} (hs : HistSm h) : HistOk h := ⟨hs.txs, hs.ords, fun t ht => by have := hs.ops t ht; omega, fun o ho => by have := hs.ids o ho; omega⟩
/-- A list of reads that a call tells. -/
def BadsP (l : List Bad) (w : World) (e : Ending) (w' : World) : Prop := ∃ v1, e = .returned v1 ∧ Bads 0 w' v1 l ∧ (∃ p c, v1 = .slice p l.length c) ∧ Aft w w'
/-- The row of a list of the call's own is no box of another type. -/
theorem own_not {B g : Nat} {w : World} {v : Value} {zs : List Bad} {cs : Array Value} {t : TypeId} (h : OwnBad B w v zs) (hg : w.heap[g]? = some (.cells cs t)) (ht : t ≠ 55) : some g ≠ v.ownBlock := fun e => by
  rcases h.2 with ⟨rfl, _⟩ | ⟨g', cap, cur, rfl, _, hh, _⟩
  · cases e
  · injection e with e
    subst e
    rw [hg] at hh
    injection hh with hh
    injection hh with _ hh
    exact ht hh
/-- On the way: the list, a world behind another. -/
def RW (wB wr : World) (v : Value) (zs : List Bad) : Prop := Aft wB wr ∧ OwnBad wB.heap.size wr v zs
theorem RW.aft {wB wr W : World} {v : Value} {zs : List Bad} (h : RW wB wr v zs) (ha : Aft wr W) : RW wB W v zs := ⟨h.1.trans ha, h.2.below ha⟩
theorem RW.lay {wB wr : World} {v : Value} {zs : List Bad} (h : RW wB wr v zs) (o : Obj) : RW wB (wr.alloc o) v zs := h.aft (Aft.one o)
theorem RW.app {wB wr W : World} {v v' : Value} {zs zs' : List Bad} (h : RW wB wr v zs) (ho : OwnBad wB.heap.size W v' zs') (hg : wr.grownBy W v.ownBlock) : RW wB W v' zs' := ⟨Below.grown h.1 hg h.1.size (fun q hq => (h.2.base q hq).1), ho⟩
set_option maxRecDepth 100000 in
set_option maxHeartbeats 16000000 in
theorem reads_any {v u fv : Value} {h : Hist} (w : World) (hh : HistV w v u h) (hs : HistSm h) {F : Nat} {bd lb : Array Value} (P : Int → Bool) (hfv : fv = .func (.func F) bd lb) (eg : ∀ args w, (callFunc F args).run Try.prog w = .ok (.enter F args) w)
    (hP : ∀ (X : World) (k : Int), Aft w X → Calls Try.prog F (bd ++ #[.int .i64 k] ++ lb) X (BoolNew (P k) X)) (ph : Int) : Calls Try.prog 38 #[.agg #[v, u], .int .i64 ph, fv] w (BadsP (rdsOf h P ph) w) := by
  subst hfv
  obtain ⟨p, c, hv, _, hlm⟩ := hh.1.form
  obtain ⟨q, d, hu, _, hlm2⟩ := hh.2.form
  subst hv hu
  obtain ⟨X, hX⟩ : ∃ X, X = w.alloc (.cells #[.slice p h.txs.length c, .slice q h.ords.length d] 25) := ⟨_, rfl⟩
  have HA : Hid (Aft w X) := Lib.hid (by rw [hX]; exact Aft.one _)
  have HB : Hid (∀ W, Aft X W → W.cell? ⟨w.heap.size, 0, none⟩ = some (.slice p h.txs.length c) ∧ W.cell? ⟨w.heap.size, 1, none⟩ = some (.slice q h.ords.length d)) := Lib.hid fun W hW => by
    have e : X.heap[w.heap.size]? = some (.cells #[.slice p h.txs.length c, .slice q h.ords.length d] 25) := by rw [hX]; exact heap_alloc_at _ _ _ rfl
    have := (hW.block _ (heap_lt e)).trans e
    simp [World.cell?, this]
  have HBL : Hid (w.heap.size < X.heap.size) := Lib.hid (by rw [hX]; simp)
  have HR := Lib.hid (Hi.right_any X (hh.below HA.out) (sm_ok hs))
  have HSM := Lib.hid hs
  have HT := Lib.hid hh.1
  have HP := Lib.hid hP
  have HWT : Hid (rightH h = true → ∀ W, Aft X W → Calls Try.prog 62 #[.agg #[.slice p h.txs.length c, .slice q h.ords.length d]] W (WtP h.txs W)) := Lib.hid fun hr W hW => writtenOf_any W (hh.below (HA.out.trans hW)) hs.txs (by have := hs.num; omega) (fun t ht => by have := hs.ops t ht; omega) (right_iff.1 hr).2.2.1
  have HPB : Hid (rightH h = true → ∀ t ∈ h.txs, ∀ o ∈ t.ops, ∀ ph, (t.dn && (othB (verO o) t.id && offB h.txs (verO o) ph)) = badB h t o ph) := Lib.hid fun hr t ht o ho ph => prog_bad hr ht ho ph
  have HRD : Hid (rdsOf h P ph = if rightH h then rdsH h P ph h.txs else []) := Lib.hid rfl
  have HE : Hid (∀ v1 w', Bads 0 w' v1 (rdsOf h P ph) → (∃ p c, v1 = .slice p (rdsOf h P ph).length c) → Aft w w' → BadsP (rdsOf h P ph) w (.returned v1) w') := Lib.hid fun v1 w' h1 h2 h3 => ⟨v1, rfl, h1, h2, h3⟩
  generalize BadsP (rdsOf h P ph) w = Post at HE ⊢
  obtain ⟨n1, hn1⟩ : ∃ n, n = h.txs.length := ⟨_, rfl⟩
  obtain ⟨n2, hn2⟩ : ∃ n, n = h.ords.length := ⟨_, rfl⟩
  rw [← hn1] at hX HB hlm HWT
  rw [← hn2] at hX HB hlm2 HWT
  have HN1 := Lib.hid hn1
  rw [← hn1, ← hn2]
  have HR2 : Hid (Calls Try.prog 8 #[.agg #[.slice p n1 c, .slice q n2 d]] X (BoolNew (rightH h) X)) := Lib.hid (by rw [hn1, hn2]; exact HR.out)
  clear hh hs hP HR hn1 hn2
  generalize rightH h = r at HR2 HWT HPB HRD
  cases r with
  | false =>
    have HNIL : Hid (rdsOf h P ph = []) := Lib.hid (by rw [HRD.out]; rfl)
    clear HRD HWT HPB
    go_enter Try.func38, Try.ntmps38
    go_wp2_with fail
    rw [← hX]
    refine HR2.out.mono ?_
    rintro e w2 ⟨rfl, ha⟩
    have HA2 := Lib.hid (HA.out.trans ha)
    clear ha hX HB HR2
    go_wp2_with fail
    exact HE.out _ _ (by rw [HNIL.out]; exact Bads.nil) (by rw [HNIL.out]; exact ⟨none, 0, rfl⟩) HA2.out
  | true =>
    have HRE : Hid (rdsOf h P ph = rdsH h P ph h.txs) := Lib.hid (by rw [HRD.out]; rfl)
    have HWT2 := Lib.hid (HWT.out rfl)
    have HPB2 := Lib.hid (HPB.out rfl)
    clear HRD HWT HPB
    go_enter Try.func38, Try.ntmps38
    go_wp2_with fail
    rw [← hX]
    refine HR2.out.mono ?_
    rintro e w2 ⟨rfl, ha⟩
    have HA2 := Lib.hid ha
    obtain ⟨e0, e1⟩ := HB.out _ ha
    clear ha hX HR2
    go_wp2_with fail
    refine (HWT2.out w2 HA2.out).mono ?_
    rintro e w3 ⟨b1, b2, m1, m2, rfl, hmd, hma, ha⟩
    obtain ⟨wB, hwB⟩ : ∃ W, W = w3.alloc (boxWr b1 b2) := ⟨_, rfl⟩
    have HAB : Hid (Aft X wB) := Lib.hid (by rw [hwB]; exact (HA2.out.trans ha).lay _)
    have HMB : Hid (∀ W, Aft wB W → MD W b1 m1 (doneF h.txs) ∧ MA W b2 m2 (fun q => ((cntW h.txs q.1 q.2 : Nat) : Int)) ∧ W.heap[w3.heap.size]? = some (boxWr b1 b2)) := Lib.hid fun W hW => by
      have h1 : Aft w3 wB := by rw [hwB]; exact Aft.one _
      have e : wB.heap[w3.heap.size]? = some (boxWr b1 b2) := by rw [hwB]; exact heap_alloc_at _ _ _ rfl
      exact ⟨hmd.below (h1.trans hW), hma.below (h1.trans hW), (hW.block _ (heap_lt e)).trans e⟩
    have HBB : Hid (w3.heap.size < wB.heap.size) := Lib.hid (by rw [hwB]; simp)
    obtain ⟨f0, f1⟩ := HB.out w3 (HA2.out.trans ha)
    have hbl : w.heap.size < w3.heap.size := Nat.lt_of_lt_of_le HBL.out (HA2.out.trans ha).size
    clear hmd hma ha HWT2 e0 e1
    have HR0 : Hid (RW wB wB (.slice none 0 0) (rdsH h P ph (h.txs.take 0))) := Lib.hid ⟨Aft.refl _, by simp [rdsH, badsH]; exact OwnBad.nil _ _⟩
    unfold boxWr at hwB
    go_wp2_with fail
    go_loopw [7, 22] (fun s7 s22 wr => ∃ k : Nat, s22 = .int .i64 (k : Int) ∧ k ≤ n1 ∧ Hid (RW wB wr s7 (rdsH h P ph (h.txs.take k)))) (fun _ s22 _ => n1 - (intOf s22).toNat)
    case atStart => exact ⟨0, rfl, Nat.zero_le _, by rw [← hwB]; exact HR0⟩
    case round =>
      clear HR0 hwB f0 f1
      obtain ⟨k, rfl, hk, HS⟩ := hrel
      obtain ⟨wA, hwA⟩ : ∃ wA, wA = wr := ⟨_, rfl⟩
      subst hwA
      by_cases hlt : k < n1
      · have hltx : k < h.txs.length := by rw [← HN1.out]; exact hlt
        obtain ⟨g, o, sp, sc, rfl, hg, c0, c1, c2, hs⟩ := HT.out.at_ hltx
        have HAW := Lib.hid ((HA.out.trans HAB.out).trans HS.out.1)
        have c0 := HAW.out.cell hg c0
        have c1 := HAW.out.cell hg c1
        have c2 := HAW.out.cell hg c2
        have hg := Nat.lt_of_lt_of_le hg HAW.out.size
        have HTK := Lib.hid (rdsH_snoc h P ph h.txs k hltx)
        have HLK := Lib.hid (HSM.out.ops _ (getD_mem hltx))
        have HOKK := Lib.hid (HSM.out.txs _ (getD_mem hltx))
        have HPBK := Lib.hid (HPB2.out _ (getD_mem hltx))
        have HLN : Hid ((rdsH h P ph (h.txs.take k)).length ≤ 100 * 1000) := Lib.hid (Nat.le_trans (rds_len h P ph _ fun t ht => HSM.out.ops t (List.mem_of_mem_take ht)) (Nat.mul_le_mul_left _ (by rw [List.length_take]; have := HSM.out.num; omega)))
        have hkI : (k : Int) < (n1 : Int) := by omega
        have HTSN := Lib.hid (fun j hj => rdsT_snoc h P (h.txs.getD k Txn.zero) ph (h.txs.getD k Txn.zero).ops j hj)
        have HTL := Lib.hid (fun l => rdsT_len h P (h.txs.getD k Txn.zero) ph l)
        have HT0 : Hid (rdsT h P (h.txs.getD k Txn.zero) ph ((h.txs.getD k Txn.zero).ops.take 0) = []) := Lib.hid (by simp [rdsT, badsT])
        generalize h.txs.getD k Txn.zero = t at c0 c1 c2 hs HTK HLK HOKK HPBK HTSN HTL HT0
        obtain ⟨ti, td, tl⟩ := t
        simp only at c0 c1 c2 hs HTK HLK HOKK HPBK HTSN
        have HOP : Hid (∀ Y, Aft w Y → Oprs 0 Y (.slice sp tl.length sc) tl) := Lib.hid fun Y hY => (hs.below hY).2
        generalize rdsH h P ph (h.txs.take k) = zs0 at HS HTK HLN
        generalize hRT : rdsT h P ⟨ti, td, tl⟩ ph = RT at HTK HTSN HTL HT0
        clear hRT hs
        obtain ⟨bx, hbx⟩ : ∃ o, o = boxT ti td (.slice sp tl.length sc) := ⟨_, rfl⟩
        have HI0 : Hid (∀ W, W = wA.alloc (boxT ti td (.slice sp tl.length sc)) → RW wB W u7 (zs0 ++ RT (tl.take 0)) ∧ W.heap[wA.heap.size]? = some bx) := Lib.hid fun W hW => by
          subst hW
          exact ⟨by rw [HT0.out, List.append_nil]; exact HS.out.lay _, by rw [hbx]; exact heap_alloc_at _ _ _ rfl⟩
        unfold boxT at HI0
        have HBC : Hid (∀ W : World, W.heap[wA.heap.size]? = some bx → W.cell? ⟨wA.heap.size, 0, none⟩ = some (.int .i64 ti) ∧ W.cell? ⟨wA.heap.size, 1, none⟩ = some (.bool td) ∧ W.cell? ⟨wA.heap.size, 2, none⟩ = some (.slice sp tl.length sc)) := Lib.hid fun W hW => by
          rw [hbx] at hW
          exact (cellsT hW).2.1
        have HBT : Hid (∃ cs, bx = .cells cs 36) := Lib.hid ⟨_, hbx⟩
        obtain ⟨tn, htn⟩ : ∃ n, n = tl.length := ⟨_, rfl⟩
        rw [← htn] at c2 HOP HI0 HBC
        have HTN := Lib.hid htn
        have htl : tn ≤ 100 := by rw [htn]; exact HLK.out
        clear hbx htn HS HT0 HLK
        go_wp2_with fail
        go_loopw [7, 29] (fun s7 s29 wr => ∃ j : Nat, s29 = .int .i64 (j : Int) ∧ j ≤ tn ∧ Hid (RW wB wr s7 (zs0 ++ RT (tl.take j)) ∧ wr.heap[wA.heap.size]? = some bx)) (fun _ s29 _ => tn - (intOf s29).toNat)
        case atStart => exact ⟨0, rfl, Nat.zero_le _, Lib.hid (HI0.out _ rfl)⟩
        case round =>
          clear HI0
          obtain ⟨j, rfl, hj, HS⟩ := hrel
          by_cases hlt2 : j < tn
          · have hltl : j < tl.length := by rw [← HTN.out]; exact hlt2
            have HAW2 := Lib.hid ((HA.out.trans HAB.out).trans HS.out.1.1)
            obtain ⟨p', c', e, _, hc⟩ := (HOP.out _ HAW2.out).open_
            injection e with ea eb ec
            subst ea ec
            clear eb
            obtain ⟨g2, o2, rfl, _, hg2, d0, d1, d2, d3⟩ := hc j hltl
            clear hc
            have HSN := Lib.hid (HTSN.out j hltl)
            have HPJ := Lib.hid (HPBK.out _ (getD_memO hltl) ph)
            have HOJ := Lib.hid (HOKK.out.2 _ (getD_memO hltl))
            have HLJ : Hid ((zs0 ++ RT (tl.take j)).length ≤ 200000) := Lib.hid (by
              have h1 := HLN.out
              have h2 := HTL.out (tl.take j)
              rw [List.length_take] at h2
              rw [List.length_append]
              omega)
            have hjI : (j : Int) < (tn : Int) := by omega
            generalize tl.getD j Opr.zero = x at d0 d1 d2 d3 HSN HPJ HOJ
            have HOF := Lib.hid (fun W => of_any x W)
            obtain ⟨vv, hvv⟩ : ∃ v, v = verO x := ⟨_, rfl⟩
            have HVB : Hid ((-9223372036854775808 ≤ vv.t ∧ vv.t ≤ 9223372036854775807) ∧ (-9223372036854775808 ≤ vv.k ∧ vv.k ≤ 9223372036854775807)) := Lib.hid (by
              rw [hvv]
              unfold verO
              split
              · exact ⟨HOJ.out.2.1, HOJ.out.1⟩
              · simp)
            unfold mkBad at HSN
            rw [← hvv] at HOF HPJ HSN
            have HIS := Lib.hid (fun W => isOther_any vv ti W)
            have HOQ : Hid (∀ W, Aft wB W → Calls Try.prog 65 #[.agg #[.map (some b1), .map (some b2)], verV vv, .int .i64 ph] W (BoolNew (offB h.txs vv ph) W)) := Lib.hid fun W hW => offends_any (HMB.out W hW).1 (HMB.out W hW).2.1 vv ph HVB.out.1 HVB.out.2
            have HPF := Lib.hid (fun W (hW : Aft w W) => HP.out W vv.k hW)
            obtain ⟨vt, vk, vn⟩ := vv
            clear hvv HVB HOJ
            obtain ⟨xr, xk, xt, xn⟩ := x
            dsimp only at d0 d1 d2 d3
            unfold verV oprV at HOF
            unfold verV at HIS HOQ
            simp only at HSN HPJ HOF HIS HOQ HPF
            generalize othB ⟨vt, vk, vn⟩ ti = qo at HIS HPJ
            generalize offB h.txs ⟨vt, vk, vn⟩ ph = qz at HOQ HPJ
            generalize P vk = pk at HPF HSN
            generalize badB h ⟨ti, td, tl⟩ ⟨xr, xk, xt, xn⟩ ph = bb at HPJ HSN
            have HNO : Hid ((td && (qo && qz) && pk) = false → ∀ W v, RW wB W v (zs0 ++ RT (tl.take j)) → RW wB W v (zs0 ++ RT (tl.take (j + 1)))) := Lib.hid fun hn W v hw => by
              rw [HSN.out, ← HPJ.out, hn]
              simpa using hw
            have HYES : Hid ((td && (qo && qz) && pk) = true → ∀ W v, RW wB W v ((zs0 ++ RT (tl.take j)) ++ [⟨ti, (j : Int), vt, vk, vn⟩]) → RW wB W v (zs0 ++ RT (tl.take (j + 1)))) := Lib.hid fun hn W v hw => by
              rw [HSN.out, ← HPJ.out, hn, if_pos rfl, ← List.append_assoc]
              exact hw
            obtain ⟨bo, hbo⟩ : ∃ o, o = boxO ⟨xr, xk, xt, xn⟩ := ⟨_, rfl⟩
            have HW3 : Hid (∀ W, Aft (wr.alloc (boxO ⟨xr, xk, xt, xn⟩)) W → RW wB W u7 (zs0 ++ RT (tl.take j)) ∧ W.heap[wA.heap.size]? = some bx) := Lib.hid fun W hW => by
              have h1 : Aft wr W := (Aft.one _).trans hW
              exact ⟨HS.out.1.aft h1, (h1.block _ (heap_lt HS.out.2)).trans HS.out.2⟩
            have hbxl := heap_lt HS.out.2
            clear HSN HPJ hbo HS
            unfold boxO at HW3
            go_wp2_with fail
            refine (HOF.out _).mono ?_
            rintro e w4 ⟨rfl, ha⟩
            have HV4 : Hid (∀ W, Aft (w4.alloc (.cells #[.int .i64 vt, .int .i64 vk, .int .i64 vn] 53)) W → (RW wB W u7 (zs0 ++ RT (tl.take j)) ∧ W.heap[wA.heap.size]? = some bx) ∧ (W.cell? ⟨wA.heap.size, 0, none⟩ = some (.int .i64 ti) ∧ W.cell? ⟨wA.heap.size, 1, none⟩ = some (.bool td) ∧ W.cell? ⟨wA.heap.size, 2, none⟩ = some (.slice (some ⟨g2, o2, none⟩) tn sc)) ∧ (W.cell? ⟨w4.heap.size, 0, none⟩ = some (.int .i64 vt) ∧ W.cell? ⟨w4.heap.size, 1, none⟩ = some (.int .i64 vk) ∧ W.cell? ⟨w4.heap.size, 2, none⟩ = some (.int .i64 vn)) ∧ W.cell? ⟨w3.heap.size, 0, none⟩ = some (.map (some b1)) ∧ W.cell? ⟨w3.heap.size, 1, none⟩ = some (.map (some b2))) := Lib.hid fun W hW => by
              have hh := HW3.out W (ha.trans ((Aft.one _).trans hW))
              have e : (w4.alloc (.cells #[.int .i64 vt, .int .i64 vk, .int .i64 vn] 53)).heap[w4.heap.size]? = some (.cells #[.int .i64 vt, .int .i64 vk, .int .i64 vn] 53) := heap_alloc_at _ _ _ rfl
              have e2 := (hW.block _ (heap_lt e)).trans e
              exact ⟨hh, HBC.out W hh.2, by simp [World.cell?, e2], cellsWr (HMB.out W hh.1.1).2.2⟩
            have hsz4 : wA.heap.size < w4.heap.size ∧ w3.heap.size < w4.heap.size := by
              have h1 := HW3.out w4 ha
              exact ⟨heap_lt h1.2, heap_lt (HMB.out w4 h1.1.1).2.2⟩
            obtain ⟨hsz5, hsz6⟩ := hsz4
            have HAX4 : Hid (∀ W, Aft (w4.alloc (.cells #[.int .i64 vt, .int .i64 vk, .int .i64 vn] 53)) W → Aft w W ∧ Aft wB W) := Lib.hid fun W hW => by
              have h1 := (HV4.out W hW).1.1.1
              exact ⟨(HA.out.trans HAB.out).trans h1, h1⟩
            obtain ⟨_, ⟨i0, i1, _⟩, _, i5, i6⟩ := HV4.out _ (Aft.refl _)
            have i0 : w4.cell? ⟨wA.heap.size, 0, none⟩ = some (.int .i64 ti) := (HBC.out w4 (HW3.out w4 ha).2).1
            have i1 : w4.cell? ⟨wA.heap.size, 1, none⟩ = some (.bool td) := (HBC.out w4 (HW3.out w4 ha).2).2.1
            clear ha HW3 HOF i5 i6
            cases td with
            | false =>
              have HR : Hid (RW wB (w4.alloc (.cells #[.int .i64 vt, .int .i64 vk, .int .i64 vn] 53)) u7 (zs0 ++ RT (tl.take (j + 1))) ∧ (w4.alloc (.cells #[.int .i64 vt, .int .i64 vk, .int .i64 vn] 53)).heap[wA.heap.size]? = some bx) := Lib.hid ⟨HNO.out (by rfl) _ _ (HV4.out _ (Aft.refl _)).1.1, (HV4.out _ (Aft.refl _)).1.2⟩
              clear HNO HYES HV4 HAX4 HIS HOQ HPF
              go_wp2_with fail
              go_roundw
              case rel => exact ⟨j + 1, by go_num, by omega, HR⟩
              case measure => simp [intOf]; omega
            | true =>
              have HP4 := Lib.hid (HPF.out _ (HAX4.out _ (Aft.refl _)).1)
              go_upto_region 12 with fail
              repeat (first | (refine HP4.out.mono ?_) | go_step)
              rintro e w5 ⟨rfl, ha⟩
              have HA5 := Lib.hid ha
              obtain ⟨_, ⟨k0, k1, _⟩, ⟨k2, k3, k4⟩, k5, k6⟩ := HV4.out _ ha
              clear ha HP4 i0 i1
              cases pk with
              | false =>
                have HR : Hid (RW wB w5 u7 (zs0 ++ RT (tl.take (j + 1))) ∧ w5.heap[wA.heap.size]? = some bx) := Lib.hid ⟨HNO.out (by cases qo <;> cases qz <;> rfl) _ _ (HV4.out _ HA5.out).1.1, (HV4.out _ HA5.out).1.2⟩
                clear HNO HYES HV4 HAX4 HIS HOQ HPF
                go_wp2_with fail
                go_roundw
                case rel => exact ⟨j + 1, by go_num, by omega, HR⟩
                case measure => simp [intOf]; omega
              | true =>
                go_wp2_with fail
                refine (HIS.out w5).mono ?_
                rintro e w6 ⟨rfl, ha⟩
                have HA6 := Lib.hid (HA5.out.trans ha)
                clear ha k0 k1 k2 k3 k4 k5 k6
                obtain ⟨_, ⟨k0, k1, _⟩, ⟨k2, k3, k4⟩, k5, k6⟩ := HV4.out _ HA6.out
                cases qo with
                | false =>
                  have HR : Hid (RW wB w6 u7 (zs0 ++ RT (tl.take (j + 1))) ∧ w6.heap[wA.heap.size]? = some bx) := Lib.hid ⟨HNO.out (by rfl) _ _ (HV4.out _ HA6.out).1.1, (HV4.out _ HA6.out).1.2⟩
                  clear HNO HYES HV4 HAX4 HIS HOQ HPF
                  go_wp2_with fail
                  go_roundw
                  case rel => exact ⟨j + 1, by go_num, by omega, HR⟩
                  case measure => simp [intOf]; omega
                | true =>
                  go_wp2_with fail
                  refine (HOQ.out w6 (HAX4.out _ HA6.out).2).mono ?_
                  rintro e w7 ⟨rfl, ha⟩
                  have HA7 := Lib.hid (HA6.out.trans ha)
                  clear ha k0 k1 k2 k3 k4 k5 k6
                  obtain ⟨_, ⟨k0, k1, _⟩, ⟨k2, k3, k4⟩, k5, k6⟩ := HV4.out _ HA7.out
                  cases qz with
                  | false =>
                    have HR : Hid (RW wB w7 u7 (zs0 ++ RT (tl.take (j + 1))) ∧ w7.heap[wA.heap.size]? = some bx) := Lib.hid ⟨HNO.out (by rfl) _ _ (HV4.out _ HA7.out).1.1, (HV4.out _ HA7.out).1.2⟩
                    clear HNO HYES HV4 HAX4 HIS HOQ HPF
                    go_wp2_with fail
                    go_roundw
                    case rel => exact ⟨j + 1, by go_num, by omega, HR⟩
                    case measure => simp [intOf]; omega
                  | true =>
                    have HY2 := Lib.hid (HYES.out rfl)
                    have H7 := Lib.hid (HV4.out _ HA7.out).1
                    clear HNO HYES HV4 HAX4 HIS HOQ HPF
                    go_wp2_with (at_builtin; refine append_bads rfl (.tmp 56) (.tmp 62) rfl (H7.out.1.lay _).1.size (H7.out.1.lay _).2 rfl (bad_at ⟨ti, (j : Int), vt, vk, vn⟩ (heap_alloc_at _ _ _ (by simp))) rfl (by have := HLJ.out; simp only [List.length_append, List.length_cons, List.length_nil] at this ⊢; omega) ?_; intro v8 w8 h8 hg8 _; have HR : Hid (RW wB w8 v8 (zs0 ++ RT (tl.take (j + 1))) ∧ w8.heap[wA.heap.size]? = some bx) := Lib.hid ⟨HY2.out _ _ ((H7.out.1.lay _).app h8 hg8), by obtain ⟨cs, hcs⟩ := HBT.out; have e1 := heap_alloc_lt _ (.cells #[.int .i64 ti, .int .i64 (j : Int), .int .i64 vt, .int .i64 vk, .int .i64 vn] 55) _ _ H7.out.2; exact (hg8.block _ (heap_lt e1) (own_not (H7.out.1.lay _).2 (by rw [e1, hcs]) (by decide))).trans e1⟩; clear h8 hg8)
                    go_roundw
                    case rel => exact ⟨j + 1, by go_num, by omega, HR⟩
                    case measure => simp [intOf]; omega
          · have hje : j = tn := by omega
            subst hje
            have HR : Hid (RW wB wr u7 (rdsH h P ph (h.txs.take (k + 1)))) := Lib.hid (by rw [HTK.out]; have := HS.out.1; rwa [HTN.out, List.take_length] at this)
            clear HS
            go_wp2_with fail
            go_roundw
            case rel => exact ⟨k + 1, by go_num, hlt, HR⟩
            case measure => simp [intOf]; omega
      · have hke : k = n1 := by omega
        subst hke
        have HR : Hid (RW wB wA u7 (rdsOf h P ph)) := Lib.hid (by rw [HRE.out]; have := HS.out; rwa [HN1.out, List.take_length] at this)
        have HLN : Hid ((rdsOf h P ph).length ≤ 9223372036854775807) := Lib.hid (by
          rw [HRE.out]
          have h1 := rds_len h P ph h.txs fun t ht => HSM.out.ops t ht
          have h2 := HSM.out.num
          omega)
        clear HS hlt hk
        go_wp2_with fail
        exact HE.out _ _ ((HR.out.2.list HLN.out).mono (Nat.zero_le _)) (by obtain ⟨p, c, e, _⟩ := (HR.out.2.list HLN.out).open_; exact ⟨p, c, e⟩) ((HA.out.trans HAB.out).trans HR.out.1)
end Go.Proofs.Ytiiipnfkkdfgbaa.Off
namespace Go.Proofs.Ytiiipnfkkdfgbaa.Off
open Go.ChangeShapes Go.WideShapes Go.ChangeAt Go.RowKit Base F Tx Hi Go.Sort
def badV (b : Bad) : Value := .agg #[.int .i64 b.tx, .int .i64 b.pl, .int .i64 b.t, .int .i64 b.k, .int .i64 b.n]
def boxB (b : Bad) : Obj := .cells #[.int .i64 b.tx, .int .i64 b.pl, .int .i64 b.t, .int .i64 b.k, .int .i64 b.n] 55
theorem cellsB {w : World} {g : Nat} {b : Bad} (h : w.heap[g]? = some (boxB b)) : w.cell? ⟨g, 0, none⟩ = some (.int .i64 b.tx) ∧ w.cell? ⟨g, 1, none⟩ = some (.int .i64 b.pl) ∧ w.cell? ⟨g, 2, none⟩ = some (.int .i64 b.t) ∧ w.cell? ⟨g, 3, none⟩ = some (.int .i64 b.k) ∧ w.cell? ⟨g, 4, none⟩ = some (.int .i64 b.n) := by
  unfold boxB at h
  simp [World.cell?, h]
set_option maxRecDepth 100000 in
set_option maxHeartbeats 4000000 in
theorem of1_any (k : Int) (w : World) : Calls Try.prog 39 #[.int .i64 k] w (BoolNew true w) := by
  go_enter Try.func39, Try.ntmps39
  go_wp2
  go_ret
  exact ⟨rfl, Aft.refl _⟩
set_option maxRecDepth 100000 in
set_option maxHeartbeats 4000000 in
theorem Of_any {v u : Value} {h : Hist} (w : World) (hh : HistV w v u h) (hs : HistSm h) (ph : Int) : Calls Try.prog 17 #[.agg #[v, u], .int .i64 ph] w (BadsP (badsOf h ph) w) := by
  obtain ⟨p, c, hv, _, hlm⟩ := hh.1.form
  obtain ⟨q, d, hu, _, hlm2⟩ := hh.2.form
  obtain ⟨X, hX⟩ : ∃ X, X = w.alloc (.cells #[v, u] 25) := ⟨_, rfl⟩
  have HA : Hid (Aft w X) := Lib.hid (by rw [hX]; exact Aft.one _)
  have HR := Lib.hid (reads_any (fv := .func (.func 39) #[] #[]) X (hh.below HA.out) hs (fun _ => true) rfl (enters_of Try.func39 (by kernel_rfl) rfl) (fun Y k _ => of1_any k Y) ph)
  have HE : Hid (rdsOf h (fun _ => true) ph = badsOf h ph) := Lib.hid (by rw [rds_of]; exact List.filter_eq_self.2 fun _ _ => rfl)
  rw [HE.out] at HR
  subst hv hu
  generalize badsOf h ph = l at HR ⊢
  generalize h.txs.length = n1 at *
  generalize h.ords.length = n2 at *
  clear hh hs HE
  go_enter Try.func17, Try.ntmps17
  go_wp2_with fail
  rw [← hX]
  refine HR.out.mono ?_
  rintro e w2 ⟨v1, rfl, h1, ⟨p1, c1, rfl⟩, ha⟩
  have HB := Lib.hid h1
  have HA2 := Lib.hid (HA.out.trans ha)
  clear h1 ha hX HR
  go_wp2_with fail
  go_ret
  exact ⟨_, rfl, HB.out, ⟨p1, c1, rfl⟩, HA2.out⟩
set_option maxRecDepth 100000 in
set_option maxHeartbeats 4000000 in
theorem OfKey_any {v u : Value} {h : Hist} (w : World) (hh : HistV w v u h) (hs : HistSm h) (ph key : Int) : Calls Try.prog 36 #[.agg #[v, u], .int .i64 ph, .int .i64 key] w (BadsP ((badsOf h ph).filter fun b => b.k == key) w) := by
  obtain ⟨p, c, hv, _, hlm⟩ := hh.1.form
  obtain ⟨q, d, hu, _, hlm2⟩ := hh.2.form
  obtain ⟨X, hX⟩ : ∃ X, X = (w.alloc (.cells #[v, u] 25)).alloc (.cells #[.int .i64 key] 3) := ⟨_, rfl⟩
  have HA : Hid (Aft w X) := Lib.hid (by rw [hX]; exact (Aft.one _).lay _)
  have HB : Hid (w.heap.size + 1 < X.heap.size ∧ X.heap[w.heap.size + 1]? = some (.cells #[.int .i64 key] 3)) := Lib.hid ⟨by rw [hX]; simp, by rw [hX]; exact heap_alloc_at _ _ _ (by simp)⟩
  have HR := Lib.hid (reads_any (fv := .func (.func 60) #[] #[.pointer (some ⟨w.heap.size + 1, 0, none⟩)]) X (hh.below HA.out) hs (fun k => k == key) rfl (enters_of Try.func60 (by kernel_rfl) rfl) (fun Y k hY => by
    have e := (hY.block _ HB.out.1).trans HB.out.2
    have hl := heap_lt e
    have c0 : Y.cell? ⟨w.heap.size + 1, 0, none⟩ = some (.int .i64 key) := by simp [World.cell?, e]
    clear e hY
    go_enter Try.func60, Try.ntmps60
    go_wp2
    go_ret
    exact ⟨rfl, Aft.refl _⟩) ph)
  rw [rds_of] at HR
  subst hv hu
  generalize ((badsOf h ph).filter fun b => b.k == key) = l at HR ⊢
  generalize h.txs.length = n1 at *
  generalize h.ords.length = n2 at *
  clear hh hs HB
  go_enter Try.func36, Try.ntmps36
  go_wp2_with fail
  rw [← hX]
  refine HR.out.mono ?_
  rintro e w2 ⟨v1, rfl, h1, ⟨p1, c1, rfl⟩, ha⟩
  have HB := Lib.hid h1
  have HA2 := Lib.hid (HA.out.trans ha)
  clear h1 ha hX HR
  go_wp2_with fail
  go_ret
  exact ⟨_, rfl, HB.out, ⟨p1, c1, rfl⟩, HA2.out⟩
theorem beq_sym (x y : Bad) : Bad.beq x y = Bad.beq y x := by
  cases h : Bad.beq y x with
  | true => rw [(Bad.beq_iff y x).1 h]; exact Bad.beq_self _
  | false =>
    rw [Bool.eq_false_iff]
    intro e
    rw [(Bad.beq_iff x y).1 e, Bad.beq_self] at h
    cases h
set_option maxRecDepth 100000 in
set_option maxHeartbeats 8000000 in
theorem indexB_any {base : Nat} {v : Value} {xs : List Bad} (b : Bad) (w : World) (h : Bads base w v xs) : Calls Try.prog 79 #[v, badV b] w (IntNew (idxF (fun x => Bad.beq b x) xs 0) w) := by
  obtain ⟨p, c, rfl, hlm, hc⟩ := h.open_
  have HT := Lib.hid hc
  have HS0 : Hid (Aft w (w.alloc (boxB b)) ∧ (w.alloc (boxB b)).heap[w.heap.size]? = some (boxB b) ∧ ∀ j, j < 0 → Bad.beq b (xs.getD j Bad.zero) = false) := Lib.hid ⟨Aft.one _, heap_alloc_at _ _ _ rfl, fun j hj => by omega⟩
  unfold boxB at HS0
  unfold badV
  clear h hc
  go_enter Try.func79, Try.ntmps79
  go_wp2_with fail
  go_loopw [8] (fun s8 wr => ∃ k : Nat, s8 = .int .i64 (k : Int) ∧ k ≤ xs.length ∧ Hid (Aft w wr ∧ wr.heap[w.heap.size]? = some (boxB b) ∧ ∀ j, j < k → Bad.beq b (xs.getD j Bad.zero) = false)) (fun s8 _ => xs.length - (intOf s8).toNat)
  case atStart => exact ⟨0, rfl, Nat.zero_le _, HS0⟩
  case round =>
    clear HS0
    obtain ⟨k, rfl, hk, HS⟩ := hrel
    by_cases hlt : k < xs.length
    · obtain ⟨g, o, rfl, _, hg, c0, c1, c2, c3, c4⟩ := HT.out k hlt
      have HCE : Hid (∀ W, Aft wr W → (W.cell? ⟨w.heap.size, 0, none⟩ = some (.int .i64 b.tx) ∧ W.cell? ⟨w.heap.size, 1, none⟩ = some (.int .i64 b.pl) ∧ W.cell? ⟨w.heap.size, 2, none⟩ = some (.int .i64 b.t) ∧ W.cell? ⟨w.heap.size, 3, none⟩ = some (.int .i64 b.k) ∧ W.cell? ⟨w.heap.size, 4, none⟩ = some (.int .i64 b.n)) ∧ W.cell? ⟨g, o + k * 5, none⟩ = some (.int .i64 (xs.getD k Bad.zero).tx) ∧ W.cell? ⟨g, o + k * 5 + 1, none⟩ = some (.int .i64 (xs.getD k Bad.zero).pl) ∧ W.cell? ⟨g, o + k * 5 + 2, none⟩ = some (.int .i64 (xs.getD k Bad.zero).t) ∧ W.cell? ⟨g, o + k * 5 + 3, none⟩ = some (.int .i64 (xs.getD k Bad.zero).k) ∧ W.cell? ⟨g, o + k * 5 + 4, none⟩ = some (.int .i64 (xs.getD k Bad.zero).n)) := Lib.hid fun W hW => by
        have h1 := HS.out.1.trans hW
        exact ⟨cellsB ((hW.block _ (heap_lt HS.out.2.1)).trans HS.out.2.1), h1.cell hg c0, h1.cell hg c1, h1.cell hg c2, h1.cell hg c3, h1.cell hg c4⟩
      have hg := Nat.lt_of_lt_of_le hg HS.out.1.size
      have hbl := heap_lt HS.out.2.1
      have HF := Lib.hid (fun he : Bad.beq b (xs.getD k Bad.zero) = true => idxF_atV (fun x => Bad.beq b x) Bad.zero xs 0 k hlt he HS.out.2.2)
      have HN := Lib.hid (fun he : Bad.beq b (xs.getD k Bad.zero) = false => show ∀ j, j < k + 1 → Bad.beq b (xs.getD j Bad.zero) = false from fun j hj => if h : j = k then h ▸ he else HS.out.2.2 j (by omega))
      have hkI : (k : Int) < (xs.length : Int) := by omega
      have HSA := Lib.hid HS.out
      generalize xs.getD k Bad.zero = x at HCE HF HN
      have heq := fun W => eq_bad b x W
      clear HS HT c0 c1 c2 c3 c4
      generalize Bad.beq b x = q at HF HN heq
      go_upto_region 4 with fail
      refine wp_region_held_drew (S := fun Z => (Z.cell? ⟨w.heap.size, 0, none⟩ = some (.int .i64 b.tx) ∧ Z.cell? ⟨w.heap.size, 1, none⟩ = some (.int .i64 b.pl) ∧ Z.cell? ⟨w.heap.size, 2, none⟩ = some (.int .i64 b.t) ∧ Z.cell? ⟨w.heap.size, 3, none⟩ = some (.int .i64 b.k) ∧ Z.cell? ⟨w.heap.size, 4, none⟩ = some (.int .i64 b.n)) ∧ Z.cell? ⟨g, o + k * 5, none⟩ = some (.int .i64 x.tx) ∧ Z.cell? ⟨g, o + k * 5 + 1, none⟩ = some (.int .i64 x.pl) ∧ Z.cell? ⟨g, o + k * 5 + 2, none⟩ = some (.int .i64 x.t) ∧ Z.cell? ⟨g, o + k * 5 + 3, none⟩ = some (.int .i64 x.k) ∧ Z.cell? ⟨g, o + k * 5 + 4, none⟩ = some (.int .i64 x.n)) (by kernel_rfl) (HCE.out _ ((Aft.refl wr).drew 1)) (fun hHeld0 => ?_)
      refine wpAnyH_take (i := 0) (v := ?_) rfl (by kernel_rfl) (by kernel_rfl) (by kernel_rfl) (fun _ _ _ h => h) (Or.inl ⟨by rfl, ?yi0⟩) (by assumption) ?qi0
      case yi0 => (intro wz hSw; (try dsimp only at hSw); go_simp <;> with_reducible rfl)
      try simp only [Act.put, List.getElem_toArray, List.getElem_cons_zero, List.setIfInBounds_toArray, List.set_cons_zero, List.set_cons_succ]
      refine wpAnyH_take (i := 1) (v := ?_) rfl (by kernel_rfl) (by kernel_rfl) (by kernel_rfl) (fun _ _ _ h => h) (Or.inl ⟨by rfl, ?yi1⟩) (by assumption) ?qi1
      case yi1 => (intro wz hSw; (try dsimp only at hSw); go_simp <;> with_reducible rfl)
      try simp only [Act.put, List.getElem_toArray, List.getElem_cons_zero, List.getElem_cons_succ, List.setIfInBounds_toArray, List.set_cons_zero, List.set_cons_succ]
      refine wpAnyH_take (i := 2) (v := ?_) rfl (by kernel_rfl) (by kernel_rfl) (by kernel_rfl) (fun _ _ _ h => h) (Or.inl ⟨by rfl, ?yi2⟩) (by assumption) ?qi2
      case yi2 => (intro wz hSw; (try dsimp only at hSw); go_simp <;> with_reducible rfl)
      try simp only [Act.put, List.getElem_toArray, List.getElem_cons_zero, List.getElem_cons_succ, List.setIfInBounds_toArray, List.set_cons_zero, List.set_cons_succ]
      refine wpAnyH_take (i := 3) (v := ?_) rfl (by kernel_rfl) (by kernel_rfl) (by kernel_rfl) (fun _ _ _ h => h) (Or.inl ⟨by rfl, ?yi3⟩) (by assumption) ?qi3
      case yi3 => (intro wz hSw; (try dsimp only at hSw); go_simp <;> with_reducible rfl)
      try simp only [Act.put, List.getElem_toArray, List.getElem_cons_zero, List.getElem_cons_succ, List.setIfInBounds_toArray, List.set_cons_zero, List.set_cons_succ]
      refine wpAnyH_take (i := 4) (v := ?_) rfl (by kernel_rfl) (by kernel_rfl) (by kernel_rfl) (fun _ _ _ h => h) (Or.inl ⟨by rfl, ?yi4⟩) (by assumption) ?qi4
      case yi4 => (intro wz hSw; (try dsimp only at hSw); go_simp <;> with_reducible rfl)
      try simp only [Act.put, List.getElem_toArray, List.getElem_cons_zero, List.getElem_cons_succ, List.setIfInBounds_toArray, List.set_cons_zero, List.set_cons_succ]
      refine wpAnyH_take (i := 5) (v := ?_) rfl (by kernel_rfl) (by kernel_rfl) (by kernel_rfl) (fun _ _ _ h => h) (Or.inl ⟨by rfl, ?yi5⟩) (by assumption) ?qi5
      case yi5 => (intro wz hSw; (try dsimp only at hSw); go_simp <;> with_reducible rfl)
      try simp only [Act.put, List.getElem_toArray, List.getElem_cons_zero, List.getElem_cons_succ, List.setIfInBounds_toArray, List.set_cons_zero, List.set_cons_succ]
      refine wpAnyH_done (by kernel_rfl) ?_ _
      clear hHeld0 HCE heq
      have HD : Hid (Aft w wr.drew ∧ wr.drew.heap[w.heap.size]? = some (boxB b)) := Lib.hid ⟨HSA.out.1.drew 1, HSA.out.2.1⟩
      cases q with
      | true =>
        have HFE := Lib.hid (HF.out rfl)
        clear HF HN HSA
        go_wp2_with fail
        go_ret
        exact ⟨ret_int (by rw [HFE.out]; simp), HD.out.1⟩
      | false =>
        have HR := Lib.hid (HN.out rfl)
        clear HF HN HSA
        go_wp2_with fail
        go_roundw
        case rel => exact ⟨k + 1, by go_num, hlt, Lib.hid ⟨HD.out.1, HD.out.2, HR.out⟩⟩
        case measure => simp [intOf]; omega
    · have hke : k = xs.length := by omega
      subst hke
      have HFE := Lib.hid (idxF_no (fun x => Bad.beq b x) Bad.zero xs 0 HS.out.2.2)
      have HA := Lib.hid HS.out.1
      clear HS HT hlt hk
      go_wp2_with fail
      go_ret
      exact ⟨ret_int HFE.out.symm, HA.out⟩
set_option maxRecDepth 100000 in
set_option maxHeartbeats 4000000 in
theorem containsB_any {base : Nat} {v : Value} {xs : List Bad} (b : Bad) (w : World) (h : Bads base w v xs) : Calls Try.prog 61 #[v, badV b] w (BoolNew (inB xs b) w) := by
  have HI := Lib.hid (indexB_any b (w.alloc (boxB b)) (h.below (Aft.one _)))
  have HB : Hid (decide (0 ≤ idxF (fun x => Bad.beq b x) xs 0) = inB xs b) := Lib.hid (by
    rw [idx_any]
    unfold inB
    congr 1
    funext x
    exact beq_sym b x)
  generalize idxF (fun x => Bad.beq b x) xs 0 = r at HI HB
  generalize inB xs b = q at HB ⊢
  obtain ⟨p, c, rfl, hlm, _⟩ := h.open_
  generalize xs.length = n at *
  have HA : Hid (Aft w (w.alloc (boxB b))) := Lib.hid (Aft.one _)
  unfold badV boxB at HI
  unfold boxB at HA
  unfold badV
  clear h
  go_enter Try.func61, Try.ntmps61
  go_wp2_with fail
  refine HI.out.mono ?_
  rintro e w2 ⟨rfl, ha⟩
  have HA2 := Lib.hid (HA.out.trans ha)
  clear ha HI
  go_wp2_with fail
  go_ret
  exact ⟨ret_bool HB.out, HA2.out⟩
set_option maxRecDepth 100000 in
set_option maxHeartbeats 8000000 in
theorem Is_any {v u : Value} {h : Hist} (w : World) (hh : HistV w v u h) (hs : HistSm h) (ph : Int) (b : Bad) : Calls Try.prog 37 #[.agg #[v, u], .int .i64 ph, badV b] w (BoolNew (inB (badsOf h ph) b) w) := by
  obtain ⟨p, c, hv, _, hlm⟩ := hh.1.form
  obtain ⟨q, d, hu, _, hlm2⟩ := hh.2.form
  subst hv hu
  obtain ⟨X, hX⟩ : ∃ X, X = (w.alloc (.cells #[.slice p h.txs.length c, .slice q h.ords.length d] 25)).alloc (boxB b) := ⟨_, rfl⟩
  have HA : Hid (Aft w X) := Lib.hid (by rw [hX]; exact (Aft.one _).lay _)
  have HC : Hid (∀ W, Aft X W → (W.cell? ⟨w.heap.size, 0, none⟩ = some (.slice p h.txs.length c) ∧ W.cell? ⟨w.heap.size, 1, none⟩ = some (.slice q h.ords.length d)) ∧ W.cell? ⟨w.heap.size + 1, 0, none⟩ = some (.int .i64 b.tx) ∧ W.cell? ⟨w.heap.size + 1, 1, none⟩ = some (.int .i64 b.pl) ∧ W.cell? ⟨w.heap.size + 1, 2, none⟩ = some (.int .i64 b.t) ∧ W.cell? ⟨w.heap.size + 1, 3, none⟩ = some (.int .i64 b.k) ∧ W.cell? ⟨w.heap.size + 1, 4, none⟩ = some (.int .i64 b.n)) := Lib.hid fun W hW => by
    have e : X.heap[w.heap.size]? = some (.cells #[.slice p h.txs.length c, .slice q h.ords.length d] 25) := by rw [hX]; exact heap_alloc_lt _ _ _ _ (heap_alloc_at _ _ _ rfl)
    have e2 : X.heap[w.heap.size + 1]? = some (boxB b) := by rw [hX]; exact heap_alloc_at _ _ _ (by simp)
    have e3 := (hW.block _ (heap_lt e)).trans e
    exact ⟨by simp [World.cell?, e3], cellsB ((hW.block _ (heap_lt e2)).trans e2)⟩
  have HK := Lib.hid (OfKey_any X.drew (hh.below (HA.out.drew 1)) hs ph b.k)
  have HIN : Hid (∀ W v1, Bads 0 W v1 ((badsOf h ph).filter fun x => x.k == b.k) → Calls Try.prog 61 #[v1, badV b] W (BoolNew (inB (badsOf h ph) b) W)) := Lib.hid fun W v1 hv => by
    rw [← inB_key]
    exact containsB_any b W hv
  generalize inB (badsOf h ph) b = r at HIN ⊢
  generalize ((badsOf h ph).filter fun x => x.k == b.k) = l at HK HIN
  generalize h.txs.length = n1 at *
  generalize h.ords.length = n2 at *
  clear hh hs
  unfold badV at HIN
  unfold boxB at hX
  unfold badV
  go_enter Try.func37, Try.ntmps37
  go_upto_region 1 with fail
  rw [← hX]
  clear hX
  refine wp_region_held_drew (S := fun Z => (Z.cell? ⟨w.heap.size, 0, none⟩ = some (.slice p n1 c) ∧ Z.cell? ⟨w.heap.size, 1, none⟩ = some (.slice q n2 d)) ∧ Z.cell? ⟨w.heap.size + 1, 0, none⟩ = some (.int .i64 b.tx) ∧ Z.cell? ⟨w.heap.size + 1, 1, none⟩ = some (.int .i64 b.pl) ∧ Z.cell? ⟨w.heap.size + 1, 2, none⟩ = some (.int .i64 b.t) ∧ Z.cell? ⟨w.heap.size + 1, 3, none⟩ = some (.int .i64 b.k) ∧ Z.cell? ⟨w.heap.size + 1, 4, none⟩ = some (.int .i64 b.n)) (by kernel_rfl) (HC.out _ ((Aft.refl X).drew 1)) (fun hHeld0 => ?_)
  refine wpAnyH_take (i := 0) (v := ?_) rfl (by kernel_rfl) (by kernel_rfl) (by kernel_rfl) (fun _ _ _ h => h) (Or.inl ⟨by rfl, ?ys0⟩) (by assumption) ?qs0
  case ys0 => (intro wz hSw; (try dsimp only at hSw); go_simp <;> with_reducible rfl)
  try simp only [Act.put, List.getElem_toArray, List.getElem_cons_zero, List.setIfInBounds_toArray, List.set_cons_zero, List.set_cons_succ]
  refine wpAnyH_take (i := 1) (v := ?_) rfl (by kernel_rfl) (by kernel_rfl) (by kernel_rfl) (fun _ _ _ h => h) (Or.inl ⟨by rfl, ?ys1⟩) (by assumption) ?qs1
  case ys1 => (intro wz hSw; (try dsimp only at hSw); go_simp <;> with_reducible rfl)
  try simp only [Act.put, List.getElem_toArray, List.getElem_cons_zero, List.getElem_cons_succ, List.setIfInBounds_toArray, List.set_cons_zero, List.set_cons_succ]
  refine wpAnyH_take (i := 2) (v := ?_) rfl (by kernel_rfl) (by kernel_rfl) (by kernel_rfl) (fun _ _ _ h => h) (Or.inl ⟨by rfl, ?ys2⟩) (by assumption) ?qs2
  case ys2 => (intro wz hSw; (try dsimp only at hSw); go_simp <;> with_reducible rfl)
  try simp only [Act.put, List.getElem_toArray, List.getElem_cons_zero, List.getElem_cons_succ, List.setIfInBounds_toArray, List.set_cons_zero, List.set_cons_succ]
  refine wpAnyH_take (i := 3) (v := ?_) rfl (by kernel_rfl) (by kernel_rfl) (by kernel_rfl) (fun _ _ _ h => h) (Or.inl ⟨by rfl, ?ys3⟩) (by assumption) ?qs3
  case ys3 => (intro wz hSw; (try dsimp only at hSw); go_simp <;> with_reducible rfl)
  try simp only [Act.put, List.getElem_toArray, List.getElem_cons_zero, List.getElem_cons_succ, List.setIfInBounds_toArray, List.set_cons_zero, List.set_cons_succ]
  refine wpAnyH_take (i := 4) (v := ?_) rfl (by kernel_rfl) (by kernel_rfl) (by kernel_rfl) (fun _ _ _ h => h) (Or.inl ⟨by rfl, ?ys4⟩) (by assumption) ?qs4
  case ys4 => (intro wz hSw; (try dsimp only at hSw); go_simp <;> with_reducible rfl)
  try simp only [Act.put, List.getElem_toArray, List.getElem_cons_zero, List.getElem_cons_succ, List.setIfInBounds_toArray, List.set_cons_zero, List.set_cons_succ]
  refine wpAnyH_take (i := 6) (v := ?_) rfl (by kernel_rfl) (by kernel_rfl) (by kernel_rfl) (fun _ _ _ h => h) (Or.inl ⟨by rfl, ?ys6⟩) (by assumption) ?qs6
  case ys6 => (intro wz hSw; (try dsimp only at hSw); go_simp <;> with_reducible rfl)
  try simp only [Act.put, List.getElem_toArray, List.getElem_cons_zero, List.getElem_cons_succ, List.setIfInBounds_toArray, List.set_cons_zero, List.set_cons_succ]
  refine wpAnyH_ready (rs := [5]) (by kernel_rfl) (by simp) ?_
  refine AllReadyH.cons rfl (fun K hK => ?_) AllReadyH.nil
  go_simp
  refine HK.out.mono ?_
  rintro e w2 ⟨v1, rfl, hv, ⟨p1, c1, rfl⟩, ha⟩
  have HA2 : Hid (Aft X w2) := Lib.hid (((Aft.refl X).drew 1).trans ha)
  have HI2 := Lib.hid (HIN.out w2 _ hv)
  clear ha hv HK HIN
  try go_wp2_with fail
  refine hK.out _ _ (HC.out _ HA2.out) (fun hHeld1 => ?_)
  clear hK K
  try simp only [Act.put, List.getElem_toArray, List.getElem_cons_zero, List.getElem_cons_succ, List.setIfInBounds_toArray, List.set_cons_zero, List.set_cons_succ]
  refine wpAnyH_ready (rs := [7]) (by kernel_rfl) (by simp) ?_
  refine AllReadyH.cons rfl (fun K hK => ?_) AllReadyH.nil
  go_simp
  refine HI2.out.mono ?_
  rintro e w3 ⟨rfl, ha⟩
  have HA3 : Hid (Aft X w3) := Lib.hid (HA2.out.trans ha)
  clear ha HI2
  try go_wp2_with fail
  refine hK.out _ _ (HC.out _ HA3.out) (fun hHeld2 => ?_)
  clear hK K
  try simp only [Act.put, List.getElem_toArray, List.getElem_cons_zero, List.getElem_cons_succ, List.setIfInBounds_toArray, List.set_cons_zero, List.set_cons_succ]
  refine wpAnyH_take (i := 8) (v := ?_) rfl (by kernel_rfl) (by kernel_rfl) (by kernel_rfl) (fun _ _ _ h => h) (Or.inl ⟨by rfl, ?ys8⟩) (by assumption) ?qs8
  case ys8 => (intro wz hSw; (try dsimp only at hSw); go_simp <;> with_reducible rfl)
  try simp only [Act.put, List.getElem_toArray, List.getElem_cons_zero, List.getElem_cons_succ, List.setIfInBounds_toArray, List.set_cons_zero, List.set_cons_succ]
  refine wpAnyH_done (by kernel_rfl) ?_ _
  clear hHeld0 hHeld1 hHeld2 HC
  go_wp2_with fail
  go_ret
  exact ⟨rfl, HA.out.trans HA3.out⟩
end Go.Proofs.Ytiiipnfkkdfgbaa.Off
namespace Go.Proofs.Ytiiipnfkkdfgbaa.Off
open Go.ChangeShapes Go.WideShapes Go.ChangeAt Go.RowKit Base F Tx Hi Go.Sort
set_option maxRecDepth 100000 in
set_option maxHeartbeats 4000000 in
theorem rIn_any {base : Nat} {v : Value} {xs : List Bad} (b : Bad) (w : World) (h : Bads base w v xs) : Calls Try.prog 19 #[v, badV b] w (BoolNew (inB xs b) w) := by
  obtain ⟨p, c, rfl, hlm, hc⟩ := h.open_
  have HT := Lib.hid hc
  have HS0 : Hid (Aft w (w.alloc (boxB b)) ∧ (w.alloc (boxB b)).heap[w.heap.size]? = some (boxB b) ∧ inB xs b = inB (xs.drop 0) b) := Lib.hid ⟨Aft.one _, heap_alloc_at _ _ _ rfl, by simp⟩
  generalize inB xs b = r at HS0 ⊢
  unfold boxB at HS0
  unfold badV
  clear h hc
  go_enter Try.func19, Try.ntmps19
  go_wp2_with fail
  go_loopw [9] (fun s9 wr => ∃ k : Nat, s9 = .int .i64 (k : Int) ∧ k ≤ xs.length ∧ Hid (Aft w wr ∧ wr.heap[w.heap.size]? = some (boxB b) ∧ r = inB (xs.drop k) b)) (fun s9 _ => xs.length - (intOf s9).toNat)
  case atStart => exact ⟨0, rfl, Nat.zero_le _, HS0⟩
  case round =>
    clear HS0
    obtain ⟨k, rfl, hk, HS⟩ := hrel
    by_cases hlt : k < xs.length
    · obtain ⟨g, o, rfl, _, hg, c0, c1, c2, c3, c4⟩ := HT.out k hlt
      have c0 := HS.out.1.cell hg c0
      have c1 := HS.out.1.cell hg c1
      have c2 := HS.out.1.cell hg c2
      have c3 := HS.out.1.cell hg c3
      have c4 := HS.out.1.cell hg c4
      have hg := Nat.lt_of_lt_of_le hg HS.out.1.size
      obtain ⟨d0, d1, d2, d3, d4⟩ := cellsB HS.out.2.1
      have hbl := heap_lt HS.out.2.1
      have HR : Hid (r = (Bad.beq (xs.getD k Bad.zero) b || inB (xs.drop (k + 1)) b)) := Lib.hid (by rw [HS.out.2.2, drop_cons xs Bad.zero k hlt]; rfl)
      have hkI : (k : Int) < (xs.length : Int) := by omega
      have HSL : Hid (∀ o, Aft w (wr.alloc o) ∧ (wr.alloc o).heap[w.heap.size]? = some (boxB b)) := Lib.hid fun o => ⟨HS.out.1.lay o, heap_alloc_lt _ _ _ _ HS.out.2.1⟩
      generalize xs.getD k Bad.zero = x at c0 c1 c2 c3 c4 HR
      have heq := fun W => eq_bad x b W
      clear HS HT
      generalize Bad.beq x b = q at HR heq
      obtain ⟨tx, pl, t, bk, n⟩ := x
      simp only at c0 c1 c2 c3 c4 heq
      cases q with
      | true =>
        have HR2 : Hid (r = true) := Lib.hid (by rw [HR.out]; rfl)
        clear HR
        go_wp2_with fail
        go_ret
        exact ⟨ret_bool HR2.out.symm, (HSL.out _).1⟩
      | false =>
        have HR2 : Hid (r = inB (xs.drop (k + 1)) b) := Lib.hid (by rw [HR.out]; rfl)
        clear HR
        go_wp2_with fail
        go_roundw
        case rel => exact ⟨k + 1, by go_num, hlt, Lib.hid ⟨(HSL.out _).1, (HSL.out _).2, HR2.out⟩⟩
        case measure => simp [intOf]; omega
    · have hke : k = xs.length := by omega
      subst hke
      have HR : Hid (r = false ∧ Aft w wr) := Lib.hid ⟨by rw [HS.out.2.2, List.drop_length]; rfl, HS.out.1⟩
      clear HS HT hlt hk
      go_wp2_with fail
      go_ret
      exact ⟨ret_bool HR.out.1.symm, HR.out.2⟩
set_option maxRecDepth 100000 in
set_option maxHeartbeats 8000000 in
theorem rSame_any {b1 b2 : Nat} {v u : Value} {xs ys : List Bad} (w : World) (h : Bads b1 w v xs) (hu : Bads b2 w u ys) : Calls Try.prog 35 #[v, u] w (BoolNew (sameBs xs ys) w) := by
  obtain ⟨p, c, rfl, hlm, hc⟩ := h.open_
  obtain ⟨p2, c2, rfl, hlm2, hc2⟩ := hu.open_
  by_cases hn : xs.length = ys.length
  · have hb : ((xs.length : Int) != (ys.length : Int)) = false := by rw [bne_eq_false_iff_eq]; omega
    have HT := Lib.hid hc
    have HU := Lib.hid hc2
    have HN := Lib.hid hn
    have HS0 : Hid (Aft w w ∧ sameBs xs ys = sameBs (xs.drop 0) (ys.drop 0)) := Lib.hid ⟨Aft.refl w, by simp⟩
    generalize sameBs xs ys = r at HS0 ⊢
    clear h hu hc hc2 hn
    go_enter Try.func35, Try.ntmps35
    go_wp2_with fail
    go_loopw [13] (fun s13 wr => ∃ k : Nat, s13 = .int .i64 (k : Int) ∧ k ≤ xs.length ∧ Hid (Aft w wr ∧ r = sameBs (xs.drop k) (ys.drop k))) (fun s13 _ => xs.length - (intOf s13).toNat)
    case atStart => exact ⟨0, rfl, Nat.zero_le _, HS0⟩
    case round =>
      clear HS0
      obtain ⟨k, rfl, hk, HS⟩ := hrel
      by_cases hlt : k < xs.length
      · have hlt2 : k < ys.length := by have := HN.out; omega
        obtain ⟨g, o, rfl, _, hg, c0, c1, c2, c3, c4⟩ := HT.out k hlt
        obtain ⟨g', o', rfl, _, hg', d0, d1, d2, d3, d4⟩ := HU.out k hlt2
        have HCE : Hid (∀ W, Aft wr W → (W.cell? ⟨g, o + k * 5, none⟩ = some (.int .i64 (xs.getD k Bad.zero).tx) ∧ W.cell? ⟨g, o + k * 5 + 1, none⟩ = some (.int .i64 (xs.getD k Bad.zero).pl) ∧ W.cell? ⟨g, o + k * 5 + 2, none⟩ = some (.int .i64 (xs.getD k Bad.zero).t) ∧ W.cell? ⟨g, o + k * 5 + 3, none⟩ = some (.int .i64 (xs.getD k Bad.zero).k) ∧ W.cell? ⟨g, o + k * 5 + 4, none⟩ = some (.int .i64 (xs.getD k Bad.zero).n)) ∧ W.cell? ⟨g', o' + k * 5, none⟩ = some (.int .i64 (ys.getD k Bad.zero).tx) ∧ W.cell? ⟨g', o' + k * 5 + 1, none⟩ = some (.int .i64 (ys.getD k Bad.zero).pl) ∧ W.cell? ⟨g', o' + k * 5 + 2, none⟩ = some (.int .i64 (ys.getD k Bad.zero).t) ∧ W.cell? ⟨g', o' + k * 5 + 3, none⟩ = some (.int .i64 (ys.getD k Bad.zero).k) ∧ W.cell? ⟨g', o' + k * 5 + 4, none⟩ = some (.int .i64 (ys.getD k Bad.zero).n)) := Lib.hid fun W hW => by
          have h1 := HS.out.1.trans hW
          exact ⟨⟨h1.cell hg c0, h1.cell hg c1, h1.cell hg c2, h1.cell hg c3, h1.cell hg c4⟩, h1.cell hg' d0, h1.cell hg' d1, h1.cell hg' d2, h1.cell hg' d3, h1.cell hg' d4⟩
        have hg := Nat.lt_of_lt_of_le hg HS.out.1.size
        have hg' := Nat.lt_of_lt_of_le hg' HS.out.1.size
        have HR : Hid (r = if Bad.beq (xs.getD k Bad.zero) (ys.getD k Bad.zero) then sameBs (xs.drop (k + 1)) (ys.drop (k + 1)) else false) := Lib.hid (by rw [HS.out.2, drop_cons xs Bad.zero k hlt, drop_cons ys Bad.zero k hlt2]; rfl)
        have hkI : (k : Int) < (xs.length : Int) := by omega
        have hkI2 : (k : Int) < (ys.length : Int) := by omega
        have HSA : Hid (Aft w wr.drew) := Lib.hid (HS.out.1.drew 1)
        generalize xs.getD k Bad.zero = x at HCE HR
        generalize ys.getD k Bad.zero = y at HCE HR
        have heq := fun W => ne_bad x y W
        clear HS HT HU c0 c1 c2 c3 c4 d0 d1 d2 d3 d4
        generalize Bad.beq x y = q at HR heq
        go_upto_region 6 with fail
        refine wp_region_held_drew (S := fun Z => (Z.cell? ⟨g, o + k * 5, none⟩ = some (.int .i64 x.tx) ∧ Z.cell? ⟨g, o + k * 5 + 1, none⟩ = some (.int .i64 x.pl) ∧ Z.cell? ⟨g, o + k * 5 + 2, none⟩ = some (.int .i64 x.t) ∧ Z.cell? ⟨g, o + k * 5 + 3, none⟩ = some (.int .i64 x.k) ∧ Z.cell? ⟨g, o + k * 5 + 4, none⟩ = some (.int .i64 x.n)) ∧ Z.cell? ⟨g', o' + k * 5, none⟩ = some (.int .i64 y.tx) ∧ Z.cell? ⟨g', o' + k * 5 + 1, none⟩ = some (.int .i64 y.pl) ∧ Z.cell? ⟨g', o' + k * 5 + 2, none⟩ = some (.int .i64 y.t) ∧ Z.cell? ⟨g', o' + k * 5 + 3, none⟩ = some (.int .i64 y.k) ∧ Z.cell? ⟨g', o' + k * 5 + 4, none⟩ = some (.int .i64 y.n)) (by kernel_rfl) (HCE.out _ ((Aft.refl wr).drew 1)) (fun hHeld0 => ?_)
        refine wpAnyH_take (i := 0) (v := ?_) rfl (by kernel_rfl) (by kernel_rfl) (by kernel_rfl) (fun _ _ _ h => h) (Or.inl ⟨by rfl, ?ye0⟩) (by assumption) ?qe0
        case ye0 => (intro wz hSw; (try dsimp only at hSw); go_simp <;> with_reducible rfl)
        try simp only [Act.put, List.getElem_toArray, List.getElem_cons_zero, List.setIfInBounds_toArray, List.set_cons_zero, List.set_cons_succ]
        refine wpAnyH_take (i := 1) (v := ?_) rfl (by kernel_rfl) (by kernel_rfl) (by kernel_rfl) (fun _ _ _ h => h) (Or.inl ⟨by rfl, ?ye1⟩) (by assumption) ?qe1
        case ye1 => (intro wz hSw; (try dsimp only at hSw); go_simp <;> with_reducible rfl)
        try simp only [Act.put, List.getElem_toArray, List.getElem_cons_zero, List.getElem_cons_succ, List.setIfInBounds_toArray, List.set_cons_zero, List.set_cons_succ]
        refine wpAnyH_take (i := 2) (v := ?_) rfl (by kernel_rfl) (by kernel_rfl) (by kernel_rfl) (fun _ _ _ h => h) (Or.inl ⟨by rfl, ?ye2⟩) (by assumption) ?qe2
        case ye2 => (intro wz hSw; (try dsimp only at hSw); go_simp <;> with_reducible rfl)
        try simp only [Act.put, List.getElem_toArray, List.getElem_cons_zero, List.getElem_cons_succ, List.setIfInBounds_toArray, List.set_cons_zero, List.set_cons_succ]
        refine wpAnyH_take (i := 3) (v := ?_) rfl (by kernel_rfl) (by kernel_rfl) (by kernel_rfl) (fun _ _ _ h => h) (Or.inl ⟨by rfl, ?ye3⟩) (by assumption) ?qe3
        case ye3 => (intro wz hSw; (try dsimp only at hSw); go_simp <;> with_reducible rfl)
        try simp only [Act.put, List.getElem_toArray, List.getElem_cons_zero, List.getElem_cons_succ, List.setIfInBounds_toArray, List.set_cons_zero, List.set_cons_succ]
        refine wpAnyH_take (i := 4) (v := ?_) rfl (by kernel_rfl) (by kernel_rfl) (by kernel_rfl) (fun _ _ _ h => h) (Or.inl ⟨by rfl, ?ye4⟩) (by assumption) ?qe4
        case ye4 => (intro wz hSw; (try dsimp only at hSw); go_simp <;> with_reducible rfl)
        try simp only [Act.put, List.getElem_toArray, List.getElem_cons_zero, List.getElem_cons_succ, List.setIfInBounds_toArray, List.set_cons_zero, List.set_cons_succ]
        refine wpAnyH_take (i := 5) (v := ?_) rfl (by kernel_rfl) (by kernel_rfl) (by kernel_rfl) (fun _ _ _ h => h) (Or.inl ⟨by rfl, ?ye5⟩) (by assumption) ?qe5
        case ye5 => (intro wz hSw; (try dsimp only at hSw); go_simp <;> with_reducible rfl)
        try simp only [Act.put, List.getElem_toArray, List.getElem_cons_zero, List.getElem_cons_succ, List.setIfInBounds_toArray, List.set_cons_zero, List.set_cons_succ]
        refine wpAnyH_take (i := 6) (v := ?_) rfl (by kernel_rfl) (by kernel_rfl) (by kernel_rfl) (fun _ _ _ h => h) (Or.inl ⟨by rfl, ?ye6⟩) (by assumption) ?qe6
        case ye6 => (intro wz hSw; (try dsimp only at hSw); go_simp <;> with_reducible rfl)
        try simp only [Act.put, List.getElem_toArray, List.getElem_cons_zero, List.getElem_cons_succ, List.setIfInBounds_toArray, List.set_cons_zero, List.set_cons_succ]
        refine wpAnyH_take (i := 7) (v := ?_) rfl (by kernel_rfl) (by kernel_rfl) (by kernel_rfl) (fun _ _ _ h => h) (Or.inl ⟨by rfl, ?ye7⟩) (by assumption) ?qe7
        case ye7 => (intro wz hSw; (try dsimp only at hSw); go_simp <;> with_reducible rfl)
        try simp only [Act.put, List.getElem_toArray, List.getElem_cons_zero, List.getElem_cons_succ, List.setIfInBounds_toArray, List.set_cons_zero, List.set_cons_succ]
        refine wpAnyH_take (i := 8) (v := ?_) rfl (by kernel_rfl) (by kernel_rfl) (by kernel_rfl) (fun _ _ _ h => h) (Or.inl ⟨by rfl, ?ye8⟩) (by assumption) ?qe8
        case ye8 => (intro wz hSw; (try dsimp only at hSw); go_simp <;> with_reducible rfl)
        try simp only [Act.put, List.getElem_toArray, List.getElem_cons_zero, List.getElem_cons_succ, List.setIfInBounds_toArray, List.set_cons_zero, List.set_cons_succ]
        refine wpAnyH_done (by kernel_rfl) ?_ _
        clear hHeld0 HCE heq
        cases q with
        | true =>
          have HR2 : Hid (Aft w wr.drew ∧ r = sameBs (xs.drop (k + 1)) (ys.drop (k + 1))) := Lib.hid ⟨HSA.out, by rw [HR.out]; rfl⟩
          clear HR
          go_wp2_with fail
          go_roundw
          case rel => exact ⟨k + 1, by go_num, hlt, HR2⟩
          case measure => simp [intOf]; omega
        | false =>
          have HR2 : Hid (r = false) := Lib.hid (by rw [HR.out]; rfl)
          clear HR
          go_wp2_with fail
          go_ret
          exact ⟨ret_bool HR2.out.symm, HSA.out⟩
      · have hke : k = xs.length := by omega
        subst hke
        have HR : Hid (r = true ∧ Aft w wr) := Lib.hid ⟨by rw [HS.out.2, List.drop_length, HN.out, List.drop_length]; rfl, HS.out.1⟩
        clear HS HT HU hlt hk
        go_wp2_with fail
        go_ret
        exact ⟨ret_bool HR.out.1.symm, HR.out.2⟩
  · have hb : ((xs.length : Int) != (ys.length : Int)) = true := by rw [bne_iff_ne]; omega
    rw [sameBs_len _ _ hn]
    clear h hu hc hc2 hn
    go_enter Try.func35, Try.ntmps35
    go_wp2_with fail
    go_ret
    exact ⟨rfl, Aft.refl _⟩
end Go.Proofs.Ytiiipnfkkdfgbaa.Off
