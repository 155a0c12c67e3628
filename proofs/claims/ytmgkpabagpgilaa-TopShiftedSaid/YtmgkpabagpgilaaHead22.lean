/-
  Contracts of small functions, several texts laid into one. Not a statement of the seat.
-/
import Derived.Test.YtmgkpabagpgilaaDgCm
import Derived.Test.YtmgkpabagpgilaaHead14
namespace Go.Proofs.Ytmgkpabagpgilaa.Dg
open Go.ChangeShapes Go.WideShapes Go.ChangeAt Go.RowKit Base F Tx Hi
/-- On the way. -/
def NW (P : Int → Bool) (os : List Ordr) (w wr : World) (k : Nat) : Prop := ∃ n, n ≤ 1000 * k ∧ MN wr (w.heap.size + 1) n (nxH P (os.take k)) ∧ Aft w wr
/-- Along an order. -/
def NV (w wA wr : World) (k j : Nat) (F : Int × Int → Option Int) (bx : Obj) : Prop := ∃ n, n ≤ 1000 * k + j ∧ MN wr (w.heap.size + 1) n F ∧ Aft w wr ∧ wr.heap[wA.heap.size]? = some bx ∧ w.heap.size + 1 < wA.heap.size
theorem getD_memR {l : List Ordr} {k : Nat} (h : k < l.length) : l.getD k Ordr.zero ∈ l := by
  rw [List.getD_eq_getElem?_getD, List.getElem?_eq_getElem h]
  exact List.getElem_mem h
theorem getD_memZ {l : List Int} {k : Nat} (h : k < l.length) : l.getD k 0 ∈ l := by
  rw [List.getD_eq_getElem?_getD, List.getElem?_eq_getElem h]
  exact List.getElem_mem h
theorem ahead_ok (key : Int) (F : Int × Int → Option Int) (l : List Int) (hl : ∀ x ∈ l, i64 x) : ∀ j, j ≤ l.length → i64 (nxL key F (l.take j)).1
  | 0, _ => by unfold i64 nxL; simp
  | j + 1, hj => by
    rw [nxL_snoc key F l j (by omega)]
    exact hl _ (getD_memZ (by omega))
set_option maxRecDepth 100000 in
set_option maxHeartbeats 16000000 in
theorem nextOf_any {v u fv : Value} {h : Hist} (w : World) (hh : HistV w v u h) (hs : HistSm h) (hol : h.ords.length ≤ 100000) {F : Nat} {bd lb : Array Value} (P : Int → Bool) (hfv : fv = .func (.func F) bd lb) (eg : ∀ args w, (callFunc F args).run Try.prog w = .ok (.enter F args) w)
    (hP : ∀ (X : World) (k : Int), Aft w X → Calls Try.prog F (bd ++ #[.int .i64 k] ++ lb) X (BoolNew (P k) X)) : Calls Try.prog 25 #[.agg #[v, u], fv] w (NxP P h.ords w) := by
  subst hfv
  have hmm := @run_makeMap Try.prog
  obtain ⟨xs, os⟩ := h
  have HOK := Lib.hid hs.ords
  have HL := Lib.hid hs.ids
  obtain ⟨h1, h2⟩ := hh
  simp only at h1 h2 hol HOK HL ⊢
  obtain ⟨p, c, rfl, _, hlm⟩ := h2.form
  have HT := Lib.hid h2
  have HP := Lib.hid hP
  have HS0 : Hid (∀ W, W = (w.alloc (.cells #[v, .slice p os.length c] 25)).alloc (.map #[] 0) → NW P os w W 0) := Lib.hid fun W hW => by
    subst hW
    exact ⟨0, Nat.le_refl _, (Mp.MO.made (heap_alloc_at _ _ _ (by simp))).ext fun q => by simp [nxH], (Aft.one _).lay _⟩
  clear h1 h2 hs hP
  go_enter Try.func25, Try.ntmps25
  go_wp2_with fail
  clear hmm
  go_loopw [15] (fun s15 wr => ∃ k : Nat, s15 = .int .i64 (k : Int) ∧ k ≤ os.length ∧ Hid (NW P os w wr k)) (fun s15 _ => os.length - (intOf s15).toNat)
  case atStart => exact ⟨0, rfl, Nat.zero_le _, Lib.hid (HS0.out _ rfl)⟩
  case round =>
    clear HS0
    obtain ⟨k, rfl, hk, HS⟩ := hrel
    obtain ⟨wA, hwA⟩ : ∃ wA, wA = wr := ⟨_, rfl⟩
    subst hwA
    by_cases hlt : k < os.length
    · have HA : Hid (Aft w wA) := Lib.hid (by obtain ⟨_, _, _, h⟩ := HS.out; exact h)
      have HBL : Hid (w.heap.size + 1 < wA.heap.size) := Lib.hid (by obtain ⟨_, _, h, _⟩ := HS.out; exact h.lt)
      obtain ⟨g, o, sp, sc, rfl, hg, c0, c1, hs⟩ := HT.out.at_ hlt
      have c0 := HA.out.cell hg c0
      have c1 := HA.out.cell hg c1
      have hg := Nat.lt_of_lt_of_le hg HA.out.size
      have HSN := Lib.hid (nxH_snoc P os k hlt)
      have HLK := Lib.hid (HL.out _ (getD_memR hlt))
      have HOKK := Lib.hid (HOK.out _ (getD_memR hlt))
      have hkI : (k : Int) < (os.length : Int) := by omega
      generalize os.getD k Ordr.zero = t at c0 c1 hs HSN HLK HOKK
      obtain ⟨xk, tl⟩ := t
      simp only at c0 c1 hs HLK
      have HOP : Hid (∀ X, Aft w X → Lst.Ints 0 X (.slice sp tl.length sc) tl) := Lib.hid fun X hX => (hs.below hX).2
      have HK : Hid (i64 xk) := Lib.hid HOKK.out.1
      have HOKO : Hid (∀ x ∈ tl, i64 x) := Lib.hid HOKK.out.2
      have hln : tl.length ≤ 1000 := HLK.out
      clear hs HOKK HLK
      obtain ⟨X, hX⟩ : ∃ X, X = wA.alloc (.cells #[.int .i64 xk, .slice sp tl.length sc] 43) := ⟨_, rfl⟩
      have HAX : Hid (Aft w X) := Lib.hid (by rw [hX]; exact HA.out.lay _)
      have HPF := Lib.hid (HP.out X xk HAX.out)
      obtain ⟨bx, hbx⟩ : ∃ b : Obj, b = .cells #[.int .i64 xk, .slice sp tl.length sc] 43 := ⟨_, rfl⟩
      have HBC : Hid (∀ W : World, W.heap[wA.heap.size]? = some bx → W.cell? ⟨wA.heap.size, 0, none⟩ = some (.int .i64 xk) ∧ W.cell? ⟨wA.heap.size, 1, none⟩ = some (.slice sp tl.length sc)) := Lib.hid fun W hW => by
        rw [hbx] at hW
        simp [World.cell?, hW]
      have HXB : Hid (X.heap[wA.heap.size]? = some bx) := Lib.hid (by rw [hX, hbx]; exact heap_alloc_at _ _ _ rfl)
      have HI0 : Hid (∀ W, Aft X W → ∃ n, n ≤ 1000 * k ∧ MN W (w.heap.size + 1) n (nxH P (os.take k)) ∧ Aft w W ∧ W.heap[wA.heap.size]? = some bx) := Lib.hid fun W hW => by
        obtain ⟨n, h1, h2, h3⟩ := HS.out
        have hXA : Aft wA X := by rw [hX]; exact Aft.one _
        exact ⟨n, h1, (h2.below hXA).below hW, HAX.out.trans hW, (hW.block _ (heap_lt HXB.out)).trans HXB.out⟩
      have hwl : wA.heap.size < X.heap.size := heap_lt HXB.out
      clear HS hbx
      cases hpk : P xk with
      | false =>
        rw [hpk] at HPF
        have HR : Hid (∀ W, Aft X W → NW P os w W (k + 1)) := Lib.hid fun W hW => by
          obtain ⟨n, h1, h2, h3, _⟩ := HI0.out W hW
          exact ⟨n, by omega, h2.ext fun q => by rw [HSN.out]; unfold nxO; simp only [hpk]; rfl, h3⟩
        clear HI0 HSN hpk
        go_upto_region 5 with fail
        rw [← hX]
        clear hX
        obtain ⟨e0, e1⟩ := HBC.out X HXB.out
        repeat (first | (refine HPF.out.mono ?_) | go_step)
        rintro e w2 ⟨rfl, ha⟩
        have HR2 := Lib.hid (HR.out w2 ha)
        clear ha HR HPF HAX HXB
        go_wp2_with fail
        go_roundw
        case rel => exact ⟨k + 1, by go_num, hlt, HR2⟩
        case measure => simp [intOf]; omega
      | true =>
        rw [hpk] at HPF
        have HSN2 : Hid (nxH P (os.take (k + 1)) = (nxL xk (nxH P (os.take k)) tl).2) := Lib.hid (by rw [HSN.out]; unfold nxO; simp only [hpk]; rfl)
        clear HSN hpk
        generalize nxH P (os.take k) = F0 at HI0 HSN2
        go_upto_region 5 with fail
        rw [← hX]
        clear hX
        obtain ⟨e0, e1⟩ := HBC.out X HXB.out
        repeat (first | (refine HPF.out.mono ?_) | go_step)
        rintro e w2 ⟨rfl, ha⟩
        have HJ0 : Hid (NV w wA w2 k 0 (nxL xk F0 (tl.take 0)).2 bx ∧ (0 : Int) = (nxL xk F0 (tl.take 0)).1) := Lib.hid (by
          obtain ⟨n, h1, h2, h3, h4⟩ := HI0.out w2 ha
          exact ⟨⟨n, by omega, h2, h3, h4, HBL.out⟩, rfl⟩)
        obtain ⟨f0, f1⟩ := HBC.out w2 (by obtain ⟨_, _, _, _, h, _⟩ := HJ0.out.1; exact h)
        have hw2 : wA.heap.size < w2.heap.size := (by obtain ⟨_, _, _, _, h, _⟩ := HJ0.out.1; exact heap_lt h)
        clear ha HI0 HPF HAX HXB e0 e1
        obtain ⟨tn, htn⟩ : ∃ n, n = tl.length := ⟨_, rfl⟩
        rw [← htn] at HBC hln HOP f1
        have HTN := Lib.hid htn
        clear htn
        go_wp2_with fail
        clear f0 f1
        go_loopw [8, 27] (fun s8 s27 wr => ∃ (j : Nat) (a : Int), s27 = .int .i64 (j : Int) ∧ s8 = .int .i64 a ∧ j ≤ tn ∧ Hid (NV w wA wr k j (nxL xk F0 (tl.take j)).2 bx ∧ a = (nxL xk F0 (tl.take j)).1)) (fun _ s27 _ => tn - (intOf s27).toNat)
        case atStart => exact ⟨0, 0, rfl, rfl, Nat.zero_le _, HJ0⟩
        case round =>
          clear HJ0
          obtain ⟨j, a, rfl, rfl, hj, HS⟩ := hrel
          by_cases hlt2 : j < tn
          · have hltl : j < tl.length := by rw [← HTN.out]; exact hlt2
            have HA2 : Hid (Aft w wr) := Lib.hid (by obtain ⟨_, _, _, h, _⟩ := HS.out.1; exact h)
            obtain ⟨f0, f1⟩ := HBC.out wr (by obtain ⟨_, _, _, _, h, _⟩ := HS.out.1; exact h)
            have hwr : wA.heap.size < wr.heap.size := (by obtain ⟨_, _, _, _, h, _⟩ := HS.out.1; exact heap_lt h)
            obtain ⟨p', c', e, _, hc⟩ := (HOP.out _ HA2.out).open_
            injection e with e1 e2 e3
            subst e1 e3
            clear e2
            obtain ⟨g2, o2, rfl, _, hg2, d0⟩ := hc j hltl
            clear hc
            have HSJ := Lib.hid (nxL_snoc xk F0 tl j hltl)
            have HAJ : Hid (i64 a) := Lib.hid (by rw [HS.out.2]; exact ahead_ok xk F0 tl HOKO.out j (by omega))
            have HVJ := Lib.hid (HOKO.out _ (getD_memZ hltl))
            have hjI : (j : Int) < (tn : Int) := by omega
            obtain ⟨kl, hkl⟩ := Mp.key_a a xk HAJ.out HK.out
            have HKL := Lib.hid hkl
            obtain ⟨y, hy⟩ : ∃ y, y = tl.getD j 0 := ⟨_, rfl⟩
            rw [← hy] at d0 HSJ HVJ
            have HWF : Hid ((Lit.int .i64 y).wf = true) := Lib.hid (WalkArith.wf_i64 HVJ.out)
            obtain ⟨n, hn, hmn, _, hb4, hb5⟩ := HS.out.1
            have HMN := Lib.hid hmn
            have hnm : n < maxLen := by simp only [maxLen]; omega
            have HF1 : Hid (∀ z : Int × Int, gH z = gH (a, xk) → setF (nxL xk F0 (tl.take j)).2 (a, xk) y z = some y) := Lib.hid fun z e => by rw [gH_inj e]; unfold setF; rw [if_pos rfl]
            have HF2 : Hid (∀ z : Int × Int, gH z ≠ gH (a, xk) → setF (nxL xk F0 (tl.take j)).2 (a, xk) y z = (nxL xk F0 (tl.take j)).2 z) := Lib.hid fun z e => by unfold setF; rw [if_neg (fun e2 => e (by rw [e2]))]
            have HR : Hid (∀ W, MN W (w.heap.size + 1) (n + 1) (setF (nxL xk F0 (tl.take j)).2 (a, xk) y) → wr.grownBy W (some (w.heap.size + 1)) → NV w wA W k (j + 1) (nxL xk F0 (tl.take (j + 1))).2 bx ∧ y = (nxL xk F0 (tl.take (j + 1))).1) := Lib.hid fun W hm hg => by
              rw [HSJ.out]
              unfold nxS
              rw [← HS.out.2]
              exact ⟨⟨n + 1, by omega, hm, Below.grown HA2.out hg HA2.out.size (fun q hq => by injection hq with hq; omega), (hg.block _ (heap_lt hb4) (fun e => by injection e with e; omega)).trans hb4, hb5⟩, rfl⟩
            clear HS HSJ hmn hn hkl hb4 hb5 HAJ HVJ hy
            go_wp2_with (at_mapUpdate; refine Mp.wp_storeO Mp.keyedA Try.underlying68 Try.underlying3 rfl (.tmp 31) (.tmp 35) (.tmp 36) rfl HMN.out hnm rfl (a, xk) rfl HKL.out y HWF.out rfl (setF (nxL xk F0 (tl.take j)).2 (a, xk) y) HF1.out HF2.out ?_; intro w3 h3 hg3; have HR3 := Lib.hid (HR.out w3 h3 hg3); clear h3 hg3)
            clear HR HMN HF1 HF2 HKL HWF
            go_roundw
            case rel => exact ⟨j + 1, y, by go_num, rfl, by omega, HR3⟩
            case measure => simp [intOf]; omega
          · have hje : j = tn := by omega
            have HR : Hid (NW P os w wr (k + 1)) := Lib.hid (by
              obtain ⟨n, h1, h2, h3, _⟩ := HS.out.1
              rw [hje, HTN.out, List.take_length, ← HSN2.out] at h2
              exact ⟨n, by omega, h2, h3⟩)
            clear HS HSN2 hje
            go_wp2_with fail
            go_roundw
            case rel => exact ⟨k + 1, by go_num, by omega, HR⟩
            case measure => simp [intOf]; omega
    · have hke : k = os.length := by omega
      have HR : Hid (∃ n, n ≤ 1000 * os.length ∧ MN wA (w.heap.size + 1) n (nxH P os) ∧ Aft w wA) := Lib.hid (by
        obtain ⟨n, h1, h2, h3⟩ := HS.out
        rw [hke, List.take_length] at h2
        rw [hke] at h1
        exact ⟨n, h1, h2, h3⟩)
      clear HS HT HOK HL hke
      go_wp2_with fail
      go_ret
      obtain ⟨n, h1, h2, h3⟩ := HR.out
      exact ⟨_, n, rfl, by omega, h1, h2, h3⟩
end Go.Proofs.Ytmgkpabagpgilaa.Dg
namespace Go.Proofs.Ytmgkpabagpgilaa.Dg
open Go.ChangeShapes Go.WideShapes Go.ChangeAt Go.RowKit Base F Tx Hi Go.Sort
/-- On the way. -/
def LW (P : Int → Bool) (xs : List Txn) (w wr : World) (k : Nat) : Prop := ∃ n, n ≤ 100000 * k ∧ ML wr (w.heap.size + 1) n (fun q => ((laH P (xs.take k) q.1 q.2 : Nat) : Int)) ∧ Aft w wr
/-- Among one's operations. -/
def LV (w wA wr : World) (k j : Nat) (F : Int × Int → Int) (bx : Obj) : Prop := ∃ n, n ≤ 100000 * k + j ∧ ML wr (w.heap.size + 1) n F ∧ Aft w wr ∧ wr.heap[wA.heap.size]? = some bx ∧ w.heap.size + 1 < wA.heap.size
theorem LV.aft {w wA wr W : World} {k j : Nat} {F : Int × Int → Int} {bx : Obj} (h : LV w wA wr k j F bx) (ha : Aft wr W) : LV w wA W k j F bx := by
  obtain ⟨n, h1, h2, h3, h4, h5⟩ := h
  exact ⟨n, h1, h2.below ha, h3.trans ha, (ha.block _ (heap_lt h4)).trans h4, h5⟩
theorem LV.next {w wA wr : World} {k j : Nat} {F F' : Int × Int → Int} {bx : Obj} (h : LV w wA wr k j F bx) (he : ∀ q, F q = F' q) : LV w wA wr k (j + 1) F' bx := by
  obtain ⟨n, h1, h2, h3⟩ := h
  exact ⟨n, by omega, h2.ext he, h3⟩
set_option maxRecDepth 100000 in
set_option maxHeartbeats 16000000 in
theorem lastOf_any {v u fv : Value} {h : Hist} (w : World) (hh : HistV w v u h) (hs : HistSm h) {F : Nat} {bd lb : Array Value} (P : Int → Bool) (hfv : fv = .func (.func F) bd lb) (eg : ∀ args w, (callFunc F args).run Try.prog w = .ok (.enter F args) w)
    (hP : ∀ (X : World) (k : Int), Aft w X → Calls Try.prog F (bd ++ #[.int .i64 k] ++ lb) X (BoolNew (P k) X)) : Calls Try.prog 24 #[.agg #[v, u], fv] w (LaP P h.txs w) := by
  subst hfv
  have hmm := @run_makeMap Try.prog
  obtain ⟨xs, os⟩ := h
  have HOK := Lib.hid hs.txs
  have HL := Lib.hid hs.ops
  have HX := Lib.hid hs.num
  obtain ⟨h1, h2⟩ := hh
  simp only at h1 h2 HOK HL HX ⊢
  obtain ⟨p, c, rfl, _, hlm⟩ := h1.form
  have HT := Lib.hid h1
  have HP := Lib.hid hP
  have HS0 : Hid (∀ W, W = (w.alloc (.cells #[.slice p xs.length c, u] 25)).alloc (.map #[] 0) → LW P xs w W 0) := Lib.hid fun W hW => by
    subst hW
    exact ⟨0, by omega, (Mp.MI.made (heap_alloc_at _ _ _ (by simp))).ext fun q => by simp [laH], (Aft.one _).lay _⟩
  clear h1 h2 hs hP
  go_enter Try.func24, Try.ntmps24
  go_wp2_with fail
  clear hmm
  go_loopw [14] (fun s14 wr => ∃ k : Nat, s14 = .int .i64 (k : Int) ∧ k ≤ xs.length ∧ Hid (LW P xs w wr k)) (fun s14 _ => xs.length - (intOf s14).toNat)
  case atStart => exact ⟨0, rfl, Nat.zero_le _, Lib.hid (HS0.out _ rfl)⟩
  case round =>
    clear HS0
    obtain ⟨k, rfl, hk, HS⟩ := hrel
    obtain ⟨wA, hwA⟩ : ∃ wA, wA = wr := ⟨_, rfl⟩
    subst hwA
    by_cases hlt : k < xs.length
    · have HA : Hid (Aft w wA) := Lib.hid (by obtain ⟨_, _, _, h⟩ := HS.out; exact h)
      have HBL : Hid (w.heap.size + 1 < wA.heap.size) := Lib.hid (by obtain ⟨_, _, h, _⟩ := HS.out; exact h.lt)
      obtain ⟨g, o, sp, sc, rfl, hg, c0, c1, c2, hs⟩ := HT.out.at_ hlt
      have c0 := HA.out.cell hg c0
      have c1 := HA.out.cell hg c1
      have c2 := HA.out.cell hg c2
      have hg := Nat.lt_of_lt_of_le hg HA.out.size
      have HTK := Lib.hid (fun t k' => laH_take P xs k hlt t k')
      have HLK := Lib.hid (HL.out _ (getD_mem hlt))
      have HOKK := Lib.hid (HOK.out _ (getD_mem hlt))
      have HCB : Hid (∀ t k', laH P (xs.take k) t k' ≤ 100000 * 1000) := Lib.hid fun t k' => Nat.le_trans (laH_bd P (xs.take k) t k' fun x hx => by have := HL.out x (List.mem_of_mem_take hx); omega) (Nat.mul_le_mul_left _ (by rw [List.length_take]; have := HX.out; omega))
      have hk4 : k ≤ 1000 := by have := HX.out; omega
      have hkI : (k : Int) < (xs.length : Int) := by omega
      generalize xs.getD k Txn.zero = t at c0 c1 c2 hs HTK HLK HOKK
      obtain ⟨ti, td, tl⟩ := t
      simp only at c0 c1 c2 hs HTK HLK HOKK
      have HOP : Hid (∀ X, Aft w X → Oprs 0 X (.slice sp tl.length sc) tl) := Lib.hid fun X hX => (hs.below hX).2
      have HTI : Hid (-9223372036854775808 ≤ ti ∧ ti ≤ 9223372036854775807) := Lib.hid HOKK.out.1
      have HOKO : Hid (∀ x ∈ tl, Opr.ok x) := Lib.hid HOKK.out.2
      have hln : tl.length ≤ 100 := HLK.out
      clear hs HT HOK HL HLK HOKK HX
      obtain ⟨FA, hFA⟩ : ∃ f : Int → Int → Nat, f = laH P (xs.take k) := ⟨_, rfl⟩
      obtain ⟨bx, hbx⟩ : ∃ b, b = boxT ti td (.slice sp tl.length sc) := ⟨_, rfl⟩
      have HBC : Hid (∀ W : World, W.heap[wA.heap.size]? = some bx → W.cell? ⟨wA.heap.size, 0, none⟩ = some (.int .i64 ti) ∧ W.cell? ⟨wA.heap.size, 1, none⟩ = some (.bool td) ∧ W.cell? ⟨wA.heap.size, 2, none⟩ = some (.slice sp tl.length sc)) := Lib.hid fun W hW => by
        rw [hbx] at hW
        exact (cellsT hW).2.1
      have HI0 : Hid (∀ W, W = wA.alloc (boxT ti td (.slice sp tl.length sc)) → LV w wA W k 0 (fun q => ((FA q.1 q.2 + (if ti = q.1 then laT P td (tl.take 0) q.2 else 0) : Nat) : Int)) bx) := Lib.hid fun W hW => by
        subst hW
        obtain ⟨n, h1, h2, h3⟩ := HS.out
        exact ⟨n, by omega, (h2.lay rfl _).ext fun q => by rw [hFA]; simp [laT, wrN], h3.lay _, by rw [hbx]; exact heap_alloc_at _ _ _ rfl, HBL.out⟩
      rw [← hFA] at HTK HCB
      clear HS hbx hFA
      unfold boxT at HI0
      obtain ⟨tn, htn⟩ : ∃ n, n = tl.length := ⟨_, rfl⟩
      rw [← htn] at c2 HBC hln HOP HI0
      have HTN := Lib.hid htn
      clear htn
      go_wp2_with fail
      clear c0 c1 c2
      go_loopw [21] (fun s21 wr => ∃ j : Nat, s21 = .int .i64 (j : Int) ∧ j ≤ tn ∧ Hid (LV w wA wr k j (fun q => ((FA q.1 q.2 + (if ti = q.1 then laT P td (tl.take j) q.2 else 0) : Nat) : Int)) bx)) (fun s21 _ => tn - (intOf s21).toNat)
      case atStart => exact ⟨0, rfl, Nat.zero_le _, Lib.hid (HI0.out _ rfl)⟩
      case round =>
        clear HI0
        obtain ⟨j, rfl, hj, HS⟩ := hrel
        by_cases hlt2 : j < tn
        · have hltl : j < tl.length := by rw [← HTN.out]; exact hlt2
          have HA2 : Hid (Aft w wr) := Lib.hid (by obtain ⟨_, _, _, h, _⟩ := HS.out; exact h)
          have HSZ : Hid (wA.heap.size < wr.heap.size) := Lib.hid (by obtain ⟨_, _, _, _, h, _⟩ := HS.out; exact heap_lt h)
          obtain ⟨p', c', e, _, hc⟩ := (HOP.out _ HA2.out).open_
          injection e with e1 e2 e3
          subst e1 e3
          clear e2
          obtain ⟨g2, o2, rfl, _, hg2, d0, d1, d2, d3⟩ := hc j hltl
          clear hc
          have HSN := Lib.hid (fun key => laT_take P td tl j hltl key)
          have HOJ := Lib.hid (HOKO.out _ (getD_memO hltl))
          have hjI : (j : Int) < (tn : Int) := by omega
          generalize tl.getD j Opr.zero = x at d0 d1 d2 d3 HSN HOJ
          obtain ⟨xr, xk, xt, xn⟩ := x
          dsimp only at d0 d1 d2 d3 HSN
          have HNO : Hid ((td && !xr && P xk) = false → ∀ q : Int × Int, ((FA q.1 q.2 + (if ti = q.1 then laT P td (tl.take j) q.2 else 0) : Nat) : Int) = ((FA q.1 q.2 + (if ti = q.1 then laT P td (tl.take (j + 1)) q.2 else 0) : Nat) : Int)) := Lib.hid fun e q => by rw [HSN.out, if_neg (show ¬ ((td && !xr && P xk) = true ∧ xk = q.2) from fun h => by rw [e] at h; cases h.1), Nat.add_zero]
          have hwr := HSZ.out
          obtain ⟨X, hX⟩ : ∃ X, X = wr.alloc (boxO ⟨xr, xk, xt, xn⟩) := ⟨_, rfl⟩
          have HLX : Hid (LV w wA X k j (fun q => ((FA q.1 q.2 + (if ti = q.1 then laT P td (tl.take j) q.2 else 0) : Nat) : Int)) bx) := Lib.hid (by rw [hX]; exact HS.out.aft (Aft.one _))
          have HXO : Hid (X.heap[wr.heap.size]? = some (boxO ⟨xr, xk, xt, xn⟩)) := Lib.hid (by rw [hX]; exact heap_alloc_at _ _ _ rfl)
          have HXS : Hid (wr.heap.size < X.heap.size) := Lib.hid (heap_lt HXO.out)
          have HPX := Lib.hid (HP.out X xk (by obtain ⟨_, _, _, h, _⟩ := HLX.out; exact h))
          clear HS
          unfold boxO at hX
          obtain ⟨e0, e1, e2⟩ := HBC.out X (by obtain ⟨_, _, _, _, h, _⟩ := HLX.out; exact h)
          obtain ⟨_, ⟨i0, i1, i2, i3⟩, _⟩ := cellsO HXO.out
          have hxs := HXS.out
          cases td with
          | false =>
            have HR := Lib.hid (HLX.out.next (HNO.out rfl))
            clear HLX HNO HSN HPX
            go_upto_region 8 with fail
            rw [← hX]
            clear hX
            go_wp2_with fail
            go_roundw
            case rel => exact ⟨j + 1, by go_num, by omega, HR⟩
            case measure => simp [intOf]; omega
          | true =>
            cases xr with
            | true =>
              have HR := Lib.hid (HLX.out.next (HNO.out rfl))
              clear HLX HNO HSN HPX
              go_upto_region 8 with fail
              rw [← hX]
              clear hX
              go_wp2_with fail
              go_roundw
              case rel => exact ⟨j + 1, by go_num, by omega, HR⟩
              case measure => simp [intOf]; omega
            | false =>
              go_upto_region 8 with fail
              rw [← hX]
              clear hX
              repeat (first | (refine HPX.out.mono ?_) | go_step)
              rintro e w5 ⟨rfl, ha⟩
              have HL5 := Lib.hid (HLX.out.aft ha)
              have HO5 : Hid (w5.heap[wr.heap.size]? = some (boxO ⟨false, xk, xt, xn⟩)) := Lib.hid ((ha.block _ (heap_lt HXO.out)).trans HXO.out)
              clear ha HPX HLX HXO HXS i0 i1 i2 i3 e0 e1 e2 hxs
              cases hpk : P xk with
              | false =>
                have HR := Lib.hid (HL5.out.next (HNO.out (by rw [hpk]; rfl)))
                clear HL5 HNO HSN hpk HO5
                go_wp2_with fail
                go_roundw
                case rel => exact ⟨j + 1, by go_num, by omega, HR⟩
                case measure => simp [intOf]; omega
              | true =>
                obtain ⟨b9, hb9⟩ : ∃ b, b = wr.heap.size := ⟨_, rfl⟩
                rw [← hb9] at HO5
                have HB9 : Hid (w.heap.size + 1 < b9 ∧ wA.heap.size ≠ w.heap.size + 1) := Lib.hid ⟨by rw [hb9]; have := HSZ.out; have := HBL.out; omega, by have := HBL.out; omega⟩
                obtain ⟨m, hm⟩ : ∃ m : Nat, m = FA ti xk + laT P true (tl.take j) xk := ⟨_, rfl⟩
                have hmb : m ≤ 100000 * 1000 + 100 := by
                  have h1 := HCB.out ti xk
                  have h2 := laT_le P true (tl.take j) xk
                  have h3 : (tl.take j).length ≤ 100 := by rw [List.length_take]; omega
                  omega
                have HSN2 := Lib.hid (bump_f FA (laT P true (tl.take j)) (laT P true (tl.take (j + 1))) ti xk (fun key => by rw [HSN.out, hpk]; simp))
                obtain ⟨F0, hF0⟩ : ∃ F : Int × Int → Int, F = fun q => ((FA q.1 q.2 + (if ti = q.1 then laT P true (tl.take j) q.2 else 0) : Nat) : Int) := ⟨_, rfl⟩
                obtain ⟨F1, hF1⟩ : ∃ F : Int × Int → Int, F = fun q => ((FA q.1 q.2 + (if ti = q.1 then laT P true (tl.take (j + 1)) q.2 else 0) : Nat) : Int) := ⟨_, rfl⟩
                rw [← hF0] at HL5
                have HL6 : Hid (LV w wA w5.drew k j F0 bx ∧ w5.drew.heap[b9]? = some (boxO ⟨false, xk, xt, xn⟩)) := Lib.hid ⟨HL5.out.aft ((Aft.refl _).drew 1), HO5.out⟩
                have hw : IntKind.i64.wrap ((m : Int) + 1) = (m : Int) + 1 := by rw [IntKind.wrap_i64] <;> omega
                obtain ⟨n, hn, hml, hbz, hba, _⟩ := HL6.out.1
                have HN := Lib.hid hn
                have HBX : Hid (BumpL w5.drew (w.heap.size + 1) n F0 F1 ti xk (m : Int)) := Lib.hid (ml_bump hml (by simp only [maxLen]; omega) HTI.out HOJ.out.1 ⟨by omega, by omega⟩ (by rw [hF0, hm]; exact HSN2.out.2.2) (by rw [hF1, hm]; exact HSN2.out.2.1) (fun q hq => by rw [hF0, hF1]; exact HSN2.out.1 q hq))
                have HCK : Hid (∀ Z, w5.drew.grownBy Z (some (w.heap.size + 1)) → Z.cell? ⟨wA.heap.size, 0, none⟩ = some (.int .i64 ti) ∧ Z.cell? ⟨b9, 1, none⟩ = some (.int .i64 xk)) := Lib.hid fun Z hZ => by
                  have h1 := (hZ.block _ (heap_lt hba) (fun e => by injection e with e; exact HB9.out.2 e)).trans hba
                  have h2 := (hZ.block _ (heap_lt HL6.out.2) (fun e => by injection e with e; have := HB9.out.1; omega)).trans HL6.out.2
                  exact ⟨(HBC.out Z h1).1, (cellsO h2).2.1.2.1⟩
                have HR : Hid (∀ W, w5.drew.grownBy W (some (w.heap.size + 1)) → ML W (w.heap.size + 1) (n + 1) F1 → LV w wA W k (j + 1) (fun q => ((FA q.1 q.2 + (if ti = q.1 then laT P true (tl.take (j + 1)) q.2 else 0) : Nat) : Int)) bx) := Lib.hid fun W hg h2 => by
                  rw [hF1] at h2
                  exact ⟨n + 1, by omega, h2, Below.grown hbz hg hbz.size (fun q hq => by injection hq with hq; omega), (hg.block _ (heap_lt hba) (fun e => by injection e with e; exact HB9.out.2 e)).trans hba, HBL.out⟩
                obtain ⟨f0, f1, f2⟩ := HBC.out w5 (by obtain ⟨_, _, _, _, h, _⟩ := HL5.out; exact h)
                have H0 : Hid (w5.drew.cell? ⟨wA.heap.size, 0, none⟩ = some (.int .i64 ti) ∧ w5.drew.cell? ⟨b9, 1, none⟩ = some (.int .i64 xk)) := Lib.hid (HCK.out _ ⟨rfl, rfl, rfl, Nat.le_refl _, fun _ _ _ => rfl⟩)
                clear HL5 HNO HSN HSN2 hm hmb HL6 hn hml hbz hba HO5 hF0 hF1 f0 f1 f2 hpk HB9
                go_upto_region 9 with fail
                try rw [← hb9]
                clear hb9
                obtain ⟨XD, hXD⟩ : ∃ W, W = w5.drew := ⟨_, rfl⟩
                rw [← hXD] at HBX HCK HR H0
                refine wp_region_held_drew (S := fun Z => Z.cell? ⟨wA.heap.size, 0, none⟩ = some (.int .i64 ti) ∧ Z.cell? ⟨b9, 1, none⟩ = some (.int .i64 xk)) (by kernel_rfl) (hXD ▸ H0.out) (fun hHeld0 => ?_)
                rw [← hXD] at hHeld0 ⊢
                clear hXD H0
                refine wpAnyH_take (i := 0) (v := ?_) rfl (by kernel_rfl) (by kernel_rfl) (by kernel_rfl) (fun _ _ _ h => h) (Or.inl ⟨by rfl, ?yr0⟩) (by assumption) ?qr0
                case yr0 => (intro wz hSw; (try dsimp only at hSw); go_simp <;> with_reducible rfl)
                try simp only [Act.put, List.getElem_toArray, List.getElem_cons_zero, List.setIfInBounds_toArray, List.set_cons_zero, List.set_cons_succ]
                refine wpAnyH_take (i := 1) (v := ?_) rfl (by kernel_rfl) (by kernel_rfl) (by kernel_rfl) (fun _ _ _ h => h) (Or.inl ⟨by rfl, ?yr1⟩) (by assumption) ?qr1
                case yr1 => (intro wz hSw; (try dsimp only at hSw); go_simp <;> with_reducible rfl)
                try simp only [Act.put, List.getElem_toArray, List.getElem_cons_zero, List.getElem_cons_succ, List.setIfInBounds_toArray, List.set_cons_zero, List.set_cons_succ]
                refine wpAnyH_take (i := 2) (v := ?_) rfl (by kernel_rfl) (by kernel_rfl) (by kernel_rfl) (fun _ _ _ h => h) (Or.inl ⟨by rfl, ?yr2⟩) (by assumption) ?qr2
                case yr2 => (intro wz hSw; (try dsimp only at hSw); go_simp <;> with_reducible rfl)
                try simp only [Act.put, List.getElem_toArray, List.getElem_cons_zero, List.getElem_cons_succ, List.setIfInBounds_toArray, List.set_cons_zero, List.set_cons_succ]
                refine wpAnyH_take (i := 3) (v := ?_) rfl (by kernel_rfl) (by kernel_rfl) (by kernel_rfl) (fun _ _ _ h => h) (Or.inl ⟨by rfl, ?yr3⟩) (by assumption) ?qr3
                case yr3 => (intro wz hSw; (try dsimp only at hSw); go_simp <;> with_reducible rfl)
                try simp only [Act.put, List.getElem_toArray, List.getElem_cons_zero, List.getElem_cons_succ, List.setIfInBounds_toArray, List.set_cons_zero, List.set_cons_succ]
                refine wpAnyH_take (i := 4) (v := ?_) rfl (by kernel_rfl) (by kernel_rfl) (by kernel_rfl) (fun _ _ _ h => h) (Or.inl ⟨by rfl, ?yr4⟩) (by assumption) ?qr4
                case yr4 => (intro wz hSw; (try dsimp only at hSw); go_simp <;> with_reducible rfl)
                try simp only [Act.put, List.getElem_toArray, List.getElem_cons_zero, List.getElem_cons_succ, List.setIfInBounds_toArray, List.set_cons_zero, List.set_cons_succ]
                refine wpAnyH_take (i := 5) (v := ?_) rfl (by kernel_rfl) (by kernel_rfl) (by kernel_rfl) (fun _ _ _ h => h) (Or.inl ⟨by rfl, ?yr5⟩) (by assumption) ?qr5
                case yr5 => (intro wz hSw; (try dsimp only at hSw); go_simp <;> with_reducible rfl)
                try simp only [Act.put, List.getElem_toArray, List.getElem_cons_zero, List.getElem_cons_succ, List.setIfInBounds_toArray, List.set_cons_zero, List.set_cons_succ]
                obtain ⟨q0, st, w1, r1, r3, r2, w3, r4, r5, r6⟩ := HBX.out
                have HS0 := Lib.hid q0
                have HS1 := Lib.hid r2
                have HR1 := Lib.hid r1
                have HR4 := Lib.hid r4
                have HC1 := Lib.hid (HCK.out w1 r3)
                have HC3 := Lib.hid (HCK.out w3 (World.grownBy.trans r3 r6))
                have HMF := Lib.hid r5
                have HG := Lib.hid (World.grownBy.trans r3 r6)
                clear q0 r1 r2 r3 r4 r5 r6 HBX HCK
                refine wpAnyH_ready (rs := [6, 8]) (by kernel_rfl) (by simp) ?_
                refine AllReadyH.cons rfl (fun K hK => ?ordrA) ?restrA
                case ordrA =>
                  refine step_lookup rfl (.tmp 38) (.tmp 43) rfl (b := w.heap.size + 1) (key := .agg #[.int .i64 ti, .int .i64 xk]) (by simp [Act.eval]) (by simp [Act.eval]) HS0.out ?_
                  refine hK.out _ _ hHeld0 (fun hHeldL => ?_)
                  clear hK K
                  try simp only [Act.put, List.getElem_toArray, List.getElem_cons_zero, List.getElem_cons_succ, List.setIfInBounds_toArray, List.set_cons_zero, List.set_cons_succ]
                  refine wpAnyH_take (i := 7) (v := ?_) rfl (by kernel_rfl) (by kernel_rfl) (by kernel_rfl) (fun _ _ _ h => h) (Or.inl ⟨by rfl, ?yra7⟩) (by assumption) ?qra7
                  case yra7 => (intro wz hSw; (try dsimp only at hSw); go_simp <;> with_reducible rfl)
                  try simp only [Act.put, List.getElem_toArray, List.getElem_cons_zero, List.getElem_cons_succ, List.setIfInBounds_toArray, List.set_cons_zero, List.set_cons_succ]
                  clear hHeldL
                  refine wpAnyH_ready (rs := [8]) (by kernel_rfl) (by simp) ?_
                  refine AllReadyH.cons rfl (fun K hK => ?_) AllReadyH.nil
                  refine Mp.step_entry rfl (.tmp 38) (.tmp 43) rfl (b := w.heap.size + 1) (key := .agg #[.int .i64 ti, .int .i64 xk]) (by simp [Act.eval]) (by simp [Act.eval]) HR1.out ?_
                  refine hK.out _ _ HC1.out (fun hHeldE => ?_)
                  clear hK K
                  try simp only [Act.put, List.getElem_toArray, List.getElem_cons_zero, List.getElem_cons_succ, List.setIfInBounds_toArray, List.set_cons_zero, List.set_cons_succ]
                  refine wpAnyH_take (i := 9) (v := ?_) rfl (by kernel_rfl) (by kernel_rfl) (by kernel_rfl) (fun _ _ _ h => h) (Or.inl ⟨by rfl, ?yrc9⟩) (by assumption) ?qrc9
                  case yrc9 => (intro wz hSw; (try dsimp only at hSw); go_simp <;> with_reducible rfl)
                  try simp only [Act.put, List.getElem_toArray, List.getElem_cons_zero, List.getElem_cons_succ, List.setIfInBounds_toArray, List.set_cons_zero, List.set_cons_succ]
                  refine wpAnyH_ready (rs := [10]) (by kernel_rfl) (by simp) ?_
                  refine AllReadyH.cons rfl (fun K hK => ?_) AllReadyH.nil
                  refine Mp.step_entryStore rfl (.tmp 38) (.tmp 47) (.tmp 45) rfl (b := w.heap.size + 1) (st := goInt st) (val := .int .i64 ((m : Int) + 1)) (by simp [Act.eval]) (by simp [Act.eval, goInt]) (by simp [Act.eval]) HR4.out ?_
                  refine hK.out _ _ HC3.out (fun hHeldS => ?_)
                  clear hK K
                  try simp only [Act.put, List.getElem_toArray, List.getElem_cons_zero, List.getElem_cons_succ]
                  refine wpAnyH_done (by kernel_rfl) ?_ _
                  clear hHeld0 hHeldE hHeldS HC1 HC3 HS0 HS1 HR1 HR4
                  have HST := Lib.hid (HR.out w3 HG.out HMF.out)
                  clear HMF HG HR HN
                  go_wp2_with fail
                  go_roundw
                  case rel => exact ⟨j + 1, by go_num, by omega, HST⟩
                  case measure => simp [intOf]; omega
                refine AllReadyH.cons rfl (fun K hK => ?ordrB) AllReadyH.nil
                case ordrB =>
                  refine Mp.step_entry rfl (.tmp 38) (.tmp 43) rfl (b := w.heap.size + 1) (key := .agg #[.int .i64 ti, .int .i64 xk]) (by simp [Act.eval]) (by simp [Act.eval]) HR1.out ?_
                  refine hK.out _ _ HC1.out (fun hHeldE => ?_)
                  clear hK K
                  try simp only [Act.put, List.getElem_toArray, List.getElem_cons_zero, List.getElem_cons_succ, List.setIfInBounds_toArray, List.set_cons_zero, List.set_cons_succ]
                  refine wpAnyH_take (i := 9) (v := ?_) rfl (by kernel_rfl) (by kernel_rfl) (by kernel_rfl) (fun _ _ _ h => h) (Or.inl ⟨by rfl, ?yrd9⟩) (by assumption) ?qrd9
                  case yrd9 => (intro wz hSw; (try dsimp only at hSw); go_simp <;> with_reducible rfl)
                  try simp only [Act.put, List.getElem_toArray, List.getElem_cons_zero, List.getElem_cons_succ, List.setIfInBounds_toArray, List.set_cons_zero, List.set_cons_succ]
                  refine wpAnyH_ready (rs := [6]) (by kernel_rfl) (by simp) ?_
                  refine AllReadyH.cons rfl (fun K hK => ?_) AllReadyH.nil
                  refine step_lookup rfl (.tmp 38) (.tmp 43) rfl (b := w.heap.size + 1) (key := .agg #[.int .i64 ti, .int .i64 xk]) (by simp [Act.eval]) (by simp [Act.eval]) HS1.out ?_
                  refine hK.out _ _ hHeldE (fun hHeldL => ?_)
                  clear hK K
                  try simp only [Act.put, List.getElem_toArray, List.getElem_cons_zero, List.getElem_cons_succ, List.setIfInBounds_toArray, List.set_cons_zero, List.set_cons_succ]
                  refine wpAnyH_take (i := 7) (v := ?_) rfl (by kernel_rfl) (by kernel_rfl) (by kernel_rfl) (fun _ _ _ h => h) (Or.inl ⟨by rfl, ?yrb7⟩) (by assumption) ?qrb7
                  case yrb7 => (intro wz hSw; (try dsimp only at hSw); go_simp <;> with_reducible rfl)
                  try simp only [Act.put, List.getElem_toArray, List.getElem_cons_zero, List.getElem_cons_succ, List.setIfInBounds_toArray, List.set_cons_zero, List.set_cons_succ]
                  clear hHeldL
                  refine wpAnyH_ready (rs := [10]) (by kernel_rfl) (by simp) ?_
                  refine AllReadyH.cons rfl (fun K hK => ?_) AllReadyH.nil
                  refine Mp.step_entryStore rfl (.tmp 38) (.tmp 47) (.tmp 45) rfl (b := w.heap.size + 1) (st := goInt st) (val := .int .i64 ((m : Int) + 1)) (by simp [Act.eval]) (by simp [Act.eval, goInt]) (by simp [Act.eval]) HR4.out ?_
                  refine hK.out _ _ HC3.out (fun hHeldS => ?_)
                  clear hK K
                  try simp only [Act.put, List.getElem_toArray, List.getElem_cons_zero, List.getElem_cons_succ]
                  refine wpAnyH_done (by kernel_rfl) ?_ _
                  clear hHeld0 hHeldE hHeldS HC1 HC3 HS0 HS1 HR1 HR4
                  have HST := Lib.hid (HR.out w3 HG.out HMF.out)
                  clear HMF HG HR HN
                  go_wp2_with fail
                  go_roundw
                  case rel => exact ⟨j + 1, by go_num, by omega, HST⟩
                  case measure => simp [intOf]; omega
        · have hje : j = tn := by omega
          have HR : Hid (LW P xs w wr (k + 1)) := Lib.hid (by
            obtain ⟨n, h1, h2, h3, _⟩ := HS.out
            exact ⟨n, by omega, h2.ext fun q => by rw [HTK.out, hje, HTN.out, List.take_length], h3⟩)
          clear HS hje
          go_wp2_with fail
          go_roundw
          case rel => exact ⟨k + 1, by go_num, by omega, HR⟩
          case measure => simp [intOf]; omega
    · have hke : k = xs.length := by omega
      have HR : Hid (∃ n, ML wA (w.heap.size + 1) n (fun q => ((laH P xs q.1 q.2 : Nat) : Int)) ∧ Aft w wA) := Lib.hid (by
        obtain ⟨n, h1, h2, h3⟩ := HS.out
        rw [hke, List.take_length] at h2
        exact ⟨n, h2, h3⟩)
      clear HS HT HOK HL hke
      go_wp2_with fail
      go_ret
      obtain ⟨n, h2, h3⟩ := HR.out
      exact ⟨_, n, rfl, by omega, h2, h3⟩
end Go.Proofs.Ytmgkpabagpgilaa.Dg
