/-
  Contracts of small functions, several texts laid into one. Not a statement of the seat.
-/
import Derived.Test.YtmgkpabagpgilaaHead14
import Derived.Test.YtmgkpabagpgilaaHead22
import Derived.Test.YtmgkpabagpgilaaDgRd
import Derived.Test.YtmgkpabagpgilaaHead24
namespace Go.Proofs.Ytmgkpabagpgilaa.Dg
open Go.ChangeShapes Go.WideShapes Go.ChangeAt Go.RowKit Base F Tx Hi Off
/-- What count leaves. -/
def CtP (h : Hist) (P : Int → Bool) (w : World) (e : Ending) (w' : World) : Prop := ∃ b n, e = .returned (.map (some b)) ∧ n ≤ 1000 * h.ords.length + 200 * h.txs.length ∧ ME w' b n (fun e => ((cntE h P e : Nat) : Int)) ∧ Aft w w'
abbrev MRn (W : World) (b r n : Nat) (f : Int × Int → Option Int) (left : Int × Int → Bool) (cnt : Nat) : Prop := Mp.MR Try.prog 70 3 gH W b r n f left cnt
/-- What is carried: the counts, the numbers of versions, who is next, the history's box. -/
structure CU (w : World) (ba bl nl bn nn : Nat) (LA : Int × Int → Int) (NX : Int × Int → Option Int) (bh : Obj) (wr : World) (n1 : Nat) (F : Edg → Int) : Prop where
  me : ME wr ba n1 F
  ml : ML wr bl nl LA
  mn : MN wr bn nn NX
  bx : wr.heap[w.heap.size]? = some bh
  aft : Aft w wr
  ord : w.heap.size < ba ∧ ba < bl ∧ bl < bn
section
variable {w wr Y : World} {ba bl nl bn nn n1 n1' : Nat} {LA : Int × Int → Int} {NX : Int × Int → Option Int} {bh : Obj} {F F' : Edg → Int}
theorem CU.after (h : CU w ba bl nl bn nn LA NX bh wr n1 F) (ha : Aft wr Y) : CU w ba bl nl bn nn LA NX bh Y n1 F :=
  ⟨h.me.below ha, h.ml.below ha, h.mn.below ha, (ha.block _ (heap_lt h.bx)).trans h.bx, h.aft.trans ha, h.ord⟩
theorem CU.turn (h : CU w ba bl nl bn nn LA NX bh wr n1 F) (hg : wr.grownBy Y (some ba)) (hm : ME Y ba n1' F') : CU w ba bl nl bn nn LA NX bh Y n1' F' :=
  ⟨hm, h.ml.kept hg (fun e => by injection e with e; have := h.ord; omega), h.mn.kept hg (fun e => by injection e with e; have := h.ord; omega), (hg.block _ (heap_lt h.bx) (fun e => by injection e with e; have := h.ord; omega)).trans h.bx, Below.grown h.aft hg h.aft.size (fun q hq => by injection hq with hq; have := h.ord; omega), h.ord⟩
theorem CU.ext (h : CU w ba bl nl bn nn LA NX bh wr n1 F) (he : ∀ e, F e = F' e) (hn : n1 ≤ n1') : CU w ba bl nl bn nn LA NX bh wr n1' F' := ⟨(h.me.ext he).mono hn, h.ml, h.mn, h.bx, h.aft, h.ord⟩
end
/-- In the loop over who is next: the iterator too. -/
def CT (w : World) (ba bl nl bn r nn C0 : Nat) (LA : Int × Int → Int) (NX : Int × Int → Option Int) (bh : Obj) (wr : World) (left : Int × Int → Bool) (cnt n1 : Nat) (F : Edg → Int) : Prop :=
  CU w ba bl nl bn nn LA NX bh wr n1 F ∧ MRn wr bn r nn NX left cnt ∧ n1 + cnt ≤ C0 ∧ bn < r
section
variable {w wr Y : World} {ba bl nl bn r nn C0 cnt cnt' n1 n1' : Nat} {LA : Int × Int → Int} {NX : Int × Int → Option Int} {bh : Obj} {left left' : Int × Int → Bool} {F F' : Edg → Int}
theorem CT.lay (h : CT w ba bl nl bn r nn C0 LA NX bh wr left cnt n1 F) (o : Obj) : CT w ba bl nl bn r nn C0 LA NX bh (wr.alloc o) left cnt n1 F :=
  ⟨h.1.after (Aft.one o), h.2.1.kept (World.grownBy_alloc wr o none) (by simp) (by simp), h.2.2⟩
theorem CT.drew (h : CT w ba bl nl bn r nn C0 LA NX bh wr left cnt n1 F) : CT w ba bl nl bn r nn C0 LA NX bh wr.drew left cnt n1 F :=
  ⟨h.1.after ((Aft.refl _).drew 1), h.2.1.kept (row := none) ⟨rfl, rfl, rfl, Nat.le_refl _, fun _ _ _ => rfl⟩ (by simp) (by simp), h.2.2⟩
theorem CT.step (h : CT w ba bl nl bn r nn C0 LA NX bh wr left cnt n1 F) (hg : wr.grownBy Y (some r)) (hm : MRn Y bn r nn NX left' cnt') (hc : cnt' < cnt) (he : ∀ e, F e = F' e) : CT w ba bl nl bn r nn C0 LA NX bh Y left' cnt' n1 F' := by
  have ho := h.1.ord
  have hr := h.2.2.2
  refine ⟨⟨(h.1.me.kept hg (fun e => by injection e with e; omega)).ext he, h.1.ml.kept hg (fun e => by injection e with e; omega), hm.map, (hg.block _ (heap_lt h.1.bx) (fun e => by injection e with e; omega)).trans h.1.bx, Below.grown h.1.aft hg h.1.aft.size (fun q hq => by injection hq with hq; omega), ho⟩, hm, ?_, hr⟩
  have := h.2.2.1
  omega
theorem CT.turn (h : CT w ba bl nl bn r nn C0 LA NX bh wr left cnt n1 F) (hg : wr.grownBy Y (some ba)) (hm : ME Y ba (n1 + 1) F') (hl : n1 + 1 + cnt ≤ C0) : CT w ba bl nl bn r nn C0 LA NX bh Y left cnt (n1 + 1) F' :=
  ⟨h.1.turn hg hm, h.2.1.kept hg (fun e => by injection e with e; have := h.1.ord; omega) (fun e => by injection e with e; have := h.1.ord; have := h.2.2.2; omega), hl, h.2.2.2⟩
end
section
variable {P : Program} {w : World} {ops : Array Oper} {o : Oper} {a : Act} {K : Act → World → Prop} {Q : Exit → Act → World → Prop} {E : Prop} {t : TypeId} {b : Nat}
theorem step_lookupG (hw : Region.wanted o (yielded ops a.tmps) = true) (m x : Operand) (hop : o.op = Op.lookup t m x false) {key v : Value} (hm : a.eval m = .map (some b)) (hx : a.eval x = key) (hr : (Instr.lookup t (.map (some b)) key false).run P w = .ok v w) (hK : K (a.put o.dst v) w) :
    if Region.wanted o (yielded ops a.tmps) = true then Oper.wp P o a w K Q else E := by
  rw [if_pos hw]
  unfold Oper.wp
  simp [execOp, hop, hm, hx, hr, Result.andThen]
  exact hK
end
set_option maxRecDepth 100000 in
set_option maxHeartbeats 16000000 in
theorem count_any {v u fv : Value} {h : Hist} (w : World) (hh : HistV w v u h) (hs : HistSm h) {F : Nat} {bd lb : Array Value} (P : Int → Bool) (hfv : fv = .func (.func F) bd lb) (eg : ∀ args w, (callFunc F args).run Try.prog w = .ok (.enter F args) w)
    (hP : ∀ (X : World) (k : Int), Aft w X → Calls Try.prog F (bd ++ #[.int .i64 k] ++ lb) X (BoolNew (P k) X)) : Calls Try.prog 13 #[.agg #[v, u], fv] w (CtP h P w) := by
  subst hfv
  have hmm := @run_makeMap Try.prog
  obtain ⟨p, c, hv, _, hlm⟩ := hh.1.form
  obtain ⟨q, d, hu, _, hlm2⟩ := hh.2.form
  subst hv hu
  obtain ⟨bh, hbh⟩ : ∃ o : Obj, o = .cells #[.slice p h.txs.length c, .slice q h.ords.length d] 25 := ⟨_, rfl⟩
  obtain ⟨X, hX⟩ : ∃ X, X = (w.alloc (.cells #[.slice p h.txs.length c, .slice q h.ords.length d] 25)).alloc (.map #[] 0) := ⟨_, rfl⟩
  have HA : Hid (Aft w X) := Lib.hid (by rw [hX]; exact (Aft.one _).lay _)
  have HB : Hid (∀ W : World, W.heap[w.heap.size]? = some bh → W.cell? ⟨w.heap.size, 0, none⟩ = some (.slice p h.txs.length c) ∧ W.cell? ⟨w.heap.size, 1, none⟩ = some (.slice q h.ords.length d)) := Lib.hid fun W hW => by
    rw [hbh] at hW
    simp [World.cell?, hW]
  have HXB : Hid (X.heap[w.heap.size]? = some bh ∧ ME X (w.heap.size + 1) 0 (fun _ => 0)) := Lib.hid ⟨by rw [hX, hbh]; exact heap_alloc_lt _ _ _ _ (heap_alloc_at _ _ _ rfl), by rw [hX]; exact Mp.MX.made (heap_alloc_at _ _ _ (by simp))⟩
  have HR := Lib.hid (Hi.right_any X (hh.below HA.out) (sm_ok hs))
  have HSM := Lib.hid hs
  have HH : Hid (∀ W, Aft w W → HistV W (.slice p h.txs.length c) (.slice q h.ords.length d) h) := Lib.hid fun W hW => hh.below hW
  have HP := Lib.hid hP
  have HEG := Lib.hid eg
  have HNX : Hid (∀ W, Aft w W → rightH h = true → Calls Try.prog 25 #[.agg #[.slice p h.txs.length c, .slice q h.ords.length d], .func (.func F) bd lb] W (NxP P h.ords W)) := Lib.hid fun W hW hr => nextOf_any W (hh.below hW) hs (ords_len hs hr) P rfl eg (fun X k hX => hP X k (hW.trans hX))
  have HLA : Hid (∀ W, Aft w W → Calls Try.prog 24 #[.agg #[.slice p h.txs.length c, .slice q h.ords.length d], .func (.func F) bd lb] W (LaP P h.txs W)) := Lib.hid fun W hW => lastOf_any W (hh.below hW) hs P rfl eg (fun X k hX => hP X k (hW.trans hX))
  have HOK : Hid (okN (nxH P h.ords)) := Lib.hid (nxH_ok P _ hs.ords)
  have HOL := Lib.hid (fun hr => ords_len hs hr)
  have HCN : Hid (∀ e, cntE h P e = if rightH h then wwF (nxH P h.ords) (fun _ => false) e + sumT (nxH P h.ords) (fun q => ((laH P h.txs q.1 q.2 : Nat) : Int)) P h.txs e else 0) := Lib.hid fun e => rfl
  have HE : Hid (∀ b n w', n ≤ 1000 * h.ords.length + 200 * h.txs.length → ME w' b n (fun e => ((cntE h P e : Nat) : Int)) → Aft w w' → CtP h P w (.returned (.map (some b))) w') := Lib.hid fun b n w' h0 h1 h2 => ⟨b, n, rfl, h0, h1, h2⟩
  generalize CtP h P w = Post at HE ⊢
  generalize cntE h P = CE at HE HCN
  obtain ⟨n1, hn1⟩ : ∃ n, n = h.txs.length := ⟨_, rfl⟩
  obtain ⟨n2, hn2⟩ : ∃ n, n = h.ords.length := ⟨_, rfl⟩
  rw [← hn1] at hX HB hlm HR HH HNX HLA hbh
  rw [← hn2] at hX HB hlm2 HR HH HNX HLA hbh
  have HN1 := Lib.hid hn1
  have HN2 := Lib.hid hn2
  rw [← hn1, ← hn2]
  clear hh hs hP hn1 hn2
  obtain ⟨c0, c1⟩ := HB.out X HXB.out.1
  have hbl := heap_lt HXB.out.1
  generalize rightH h = rr at HR HNX HOL HCN
  cases rr with
  | false =>
    have HFIN : Hid (∀ W, Aft X W → Post (.returned (.map (some (w.heap.size + 1)))) W) := Lib.hid fun W hW => HE.out _ _ W (Nat.zero_le _) ((HXB.out.2.below hW).ext fun e => by rw [HCN.out]; rfl) (HA.out.trans hW)
    clear HE HCN HNX HLA HOK HOL HXB
    go_enter Try.func13, Try.ntmps13
    go_wp2_with fail
    clear hmm
    rw [← hX]
    clear hX
    go_wp2_with fail
    refine HR.out.mono ?_
    rintro e w2 ⟨rfl, ha⟩
    have HF2 := Lib.hid (HFIN.out w2 ha)
    clear ha HFIN HR c0 c1
    go_wp2_with fail
    exact HF2.out
  | true =>
    have HCN2 : Hid (∀ e, CE e = wwF (nxH P h.ords) (fun _ => false) e + sumT (nxH P h.ords) (fun q => ((laH P h.txs q.1 q.2 : Nat) : Int)) P h.txs e) := Lib.hid fun e => by rw [HCN.out]; rfl
    have HNX2 := Lib.hid (fun W hW => HNX.out W hW rfl)
    have HOL2 : Hid (h.ords.length ≤ 100000) := Lib.hid (HOL.out rfl)
    clear HCN HNX HOL
    obtain ⟨NX, hNX⟩ : ∃ f, f = nxH P h.ords := ⟨_, rfl⟩
    obtain ⟨LA, hLA⟩ : ∃ f : Int × Int → Int, f = fun q => ((laH P h.txs q.1 q.2 : Nat) : Int) := ⟨_, rfl⟩
    rw [← hNX] at HOK
    rw [← hNX, ← hLA] at HCN2
    have HNXE := Lib.hid hNX
    have HLAE := Lib.hid hLA
    clear hNX hLA
    go_enter Try.func13, Try.ntmps13
    go_wp2_with fail
    clear hmm
    rw [← hX]
    clear hX
    go_wp2_with fail
    refine HR.out.mono ?_
    rintro e w2 ⟨rfl, ha⟩
    obtain ⟨W0, hW0⟩ : ∃ W, W = w2.drew := ⟨_, rfl⟩
    have HA0 : Hid (Aft X W0) := Lib.hid (by rw [hW0]; exact ha.trans ((Aft.refl _).drew 1))
    obtain ⟨c0, c1⟩ := HB.out w2 ((ha.block _ (heap_lt HXB.out.1)).trans HXB.out.1)
    have hbl := Nat.lt_of_lt_of_le hbl ha.size
    have HSZ : Hid (w.heap.size + 2 ≤ W0.heap.size) := Lib.hid (Nat.le_trans HXB.out.2.lt HA0.out.size)
    have HCZ : Hid (∀ Z, Aft W0 Z → Z.cell? ⟨w.heap.size, 0, none⟩ = some (.slice p n1 c) ∧ Z.cell? ⟨w.heap.size, 1, none⟩ = some (.slice q n2 d)) := Lib.hid fun Z hZ => HB.out Z (((HA0.out.trans hZ).block _ (heap_lt HXB.out.1)).trans HXB.out.1)
    clear ha HR
    go_upto_region 4 with fail
    refine wp_region_held_drew (S := fun Z => Z.cell? ⟨w.heap.size, 0, none⟩ = some (.slice p n1 c) ∧ Z.cell? ⟨w.heap.size, 1, none⟩ = some (.slice q n2 d)) (by kernel_rfl) (hW0 ▸ HCZ.out _ (Aft.refl _)) (fun hHeld0 => ?_)
    rw [← hW0] at hHeld0 ⊢
    clear hW0
    refine wpAnyH_take (i := 0) (v := ?_) rfl (by kernel_rfl) (by kernel_rfl) (by kernel_rfl) (fun _ _ _ h => h) (Or.inl ⟨by rfl, ?yf0⟩) (by assumption) ?qf0
    case yf0 => (intro wz hSw; (try dsimp only at hSw); go_simp <;> with_reducible rfl)
    try simp only [Act.put, List.getElem_toArray, List.getElem_cons_zero, List.setIfInBounds_toArray, List.set_cons_zero, List.set_cons_succ]
    refine wpAnyH_take (i := 1) (v := ?_) rfl (by kernel_rfl) (by kernel_rfl) (by kernel_rfl) (fun _ _ _ h => h) (Or.inl ⟨by rfl, ?yf1⟩) (by assumption) ?qf1
    case yf1 => (intro wz hSw; (try dsimp only at hSw); go_simp <;> with_reducible rfl)
    try simp only [Act.put, List.getElem_toArray, List.getElem_cons_zero, List.getElem_cons_succ, List.setIfInBounds_toArray, List.set_cons_zero, List.set_cons_succ]
    refine wpAnyH_take (i := 3) (v := ?_) rfl (by kernel_rfl) (by kernel_rfl) (by kernel_rfl) (fun _ _ _ h => h) (Or.inl ⟨by rfl, ?yf3⟩) (by assumption) ?qf3
    case yf3 => (intro wz hSw; (try dsimp only at hSw); go_simp <;> with_reducible rfl)
    try simp only [Act.put, List.getElem_toArray, List.getElem_cons_zero, List.getElem_cons_succ, List.setIfInBounds_toArray, List.set_cons_zero, List.set_cons_succ]
    refine wpAnyH_take (i := 4) (v := ?_) rfl (by kernel_rfl) (by kernel_rfl) (by kernel_rfl) (fun _ _ _ h => h) (Or.inl ⟨by rfl, ?yf4⟩) (by assumption) ?qf4
    case yf4 => (intro wz hSw; (try dsimp only at hSw); go_simp <;> with_reducible rfl)
    try simp only [Act.put, List.getElem_toArray, List.getElem_cons_zero, List.getElem_cons_succ, List.setIfInBounds_toArray, List.set_cons_zero, List.set_cons_succ]
    refine wpAnyH_ready (rs := [2]) (by kernel_rfl) (by simp) ?_
    refine AllReadyH.cons rfl (fun K hK => ?_) AllReadyH.nil
    go_simp
    refine (HLA.out W0 (HA.out.trans HA0.out)).mono ?_
    rintro e u1 ⟨bl, nl, rfl, hbl1, hml, hb⟩
    have HM1 : Hid (W0.heap.size ≤ bl ∧ bl < u1.heap.size ∧ ML u1 bl nl LA ∧ Aft W0 u1) := Lib.hid ⟨hbl1, hml.lt, by rw [HLAE.out]; exact hml, hb⟩
    clear hbl1 hml hb
    refine hK.out _ _ (HCZ.out _ HM1.out.2.2.2) (fun hHeld1 => ?_)
    clear hK K
    try simp only [Act.put, List.getElem_toArray, List.getElem_cons_zero, List.getElem_cons_succ, List.setIfInBounds_toArray, List.set_cons_zero, List.set_cons_succ]
    refine wpAnyH_ready (rs := [5]) (by kernel_rfl) (by simp) ?_
    refine AllReadyH.cons rfl (fun K hK => ?_) AllReadyH.nil
    go_simp
    refine (HNX2.out u1 ((HA.out.trans HA0.out).trans HM1.out.2.2.2)).mono ?_
    rintro e u2 ⟨bn, nn, rfl, hbn, hnn, hmn, hb⟩
    have HM2 : Hid (bl < bn ∧ nn ≤ 1000 * n2 ∧ MN u2 bn nn NX ∧ Aft u1 u2) := Lib.hid ⟨Nat.lt_of_lt_of_le HM1.out.2.1 hbn, by rw [HN2.out]; exact hnn, by rw [HNXE.out]; exact hmn, hb⟩
    clear hbn hnn hmn hb
    refine hK.out _ _ (HCZ.out _ (HM1.out.2.2.2.trans HM2.out.2.2.2)) (fun hHeld2 => ?_)
    clear hK K
    try simp only [Act.put, List.getElem_toArray, List.getElem_cons_zero, List.getElem_cons_succ, List.setIfInBounds_toArray, List.set_cons_zero, List.set_cons_succ]
    refine wpAnyH_take (i := 6) (v := ?_) rfl (by kernel_rfl) (by kernel_rfl) (by kernel_rfl) (fun _ _ _ h => h) (Or.inl ⟨by rfl, ?yf6⟩) (by assumption) ?qf6
    case yf6 => (intro wz hSw; (try dsimp only at hSw); go_simp <;> with_reducible rfl)
    try simp only [Act.put, List.getElem_toArray, List.getElem_cons_zero, List.getElem_cons_succ, List.setIfInBounds_toArray, List.set_cons_zero, List.set_cons_succ]
    refine wpAnyH_take (i := 7) (v := ?_) rfl (by kernel_rfl) (by kernel_rfl) (by kernel_rfl) (fun _ _ _ h => h) (Or.inl ⟨by rfl, ?yf7⟩) (by assumption) ?qf7
    case yf7 => (intro wz hSw; (try dsimp only at hSw); go_simp <;> with_reducible rfl)
    try simp only [Act.put, List.getElem_toArray, List.getElem_cons_zero, List.getElem_cons_succ, List.setIfInBounds_toArray, List.set_cons_zero, List.set_cons_succ]
    refine wpAnyH_done (by kernel_rfl) ?_ _
    clear hHeld0 hHeld1 hHeld2
    have HU : Hid (CU w (w.heap.size + 1) bl nl bn nn LA NX bh u2 0 (fun _ => 0)) := Lib.hid ⟨HXB.out.2.below ((HA0.out.trans HM1.out.2.2.2).trans HM2.out.2.2.2), HM1.out.2.2.1.below HM2.out.2.2.2, HM2.out.2.2.1, ((((HA0.out.trans HM1.out.2.2.2).trans HM2.out.2.2.2)).block _ (heap_lt HXB.out.1)).trans HXB.out.1, HA.out.trans ((HA0.out.trans HM1.out.2.2.2).trans HM2.out.2.2.2), by omega, by have := HM1.out.1; have := HSZ.out; omega, HM2.out.1⟩
    have HNN : Hid (nn ≤ 1000 * n2) := Lib.hid HM2.out.2.1
    clear HM1 HM2 HSZ HA0 HCZ HNX2 HLA HXB HA c0 c1 hbl HNXE
    generalize w.heap.size + 1 = ba at HU ⊢
    have HMN := Lib.hid HU.out.mn
    obtain ⟨r, hr⟩ : ∃ r, r = u2.heap.size := ⟨_, rfl⟩
    go_wp2_with (at_range; refine Mp.wp_rangeO Mp.keyedA Try.underlying68 rfl (.tmp 26) rfl HMN.out rfl ?_; intro w0 cnt0 hc0 hmr hg0 hs0)
    go_frame
    rw [← hr] at hmr ⊢
    have HT0 : Hid (CT w ba bl nl bn r nn (1000 * n2) LA NX bh w0 (fun x => (NX x).isSome) cnt0 0 (fun e => ((wwF NX (fun x => (NX x).isSome) e : Nat) : Int))) := Lib.hid (by
      have ha : Aft u2 w0 := ⟨hg0.os, hg0.tape, hg0.output, hg0.size, fun i hi => hg0.block i hi (by simp)⟩
      exact ⟨(HU.out.after ha).ext (fun e => by rw [ww_start]; rfl) (Nat.le_refl _), hmr, by have := HNN.out; omega, by rw [hr]; exact HU.out.mn.lt⟩)
    clear hc0 hmr hg0 hs0 hr HU HNN HMN
    go_loopw [9] (fun _ wr => ∃ (left : Int × Int → Bool) (cnt m1 : Nat), Hid (CT w ba bl nl bn r nn (1000 * n2) LA NX bh wr left cnt m1 (fun e => ((wwF NX left e : Nat) : Int)))) (fun _ wr => wr.rangeLeft bn r)
    case atStart => exact ⟨_, _, _, HT0⟩
    case round =>
      clear HT0
      obtain ⟨left, cnt, m1, HS⟩ := hrel
      have HMR := Lib.hid HS.out.2.1
      go_wp2_with (at_next; refine Mp.wp_nextO Mp.keyedA Try.underlying3 inv_a (fun x y e => gH_inj e) rfl (.tmp 27) rfl rfl HMR.out ?_ ?_)
      · intro hl
        have HU0 : Hid (CU w ba bl nl bn nn LA NX bh wr (1000 * n2) (fun e => ((wwF NX (fun _ => false) e + sumT NX LA P (h.txs.take 0) e : Nat) : Int))) := Lib.hid (HS.out.1.ext (fun e => by
          rw [ww_end (fun qq z hz => by
            obtain ⟨h1, h2, _⟩ := HOK.out qq z hz
            obtain ⟨kl, hkl⟩ := Mp.key_a qq.1 qq.2 h1 h2
            exact hl qq.1 qq.2 kl hkl) e]
          simp [sumT]) (by have := HS.out.2.2.1; omega))
        clear hl HS HMR
        obtain ⟨c0, c1⟩ := HB.out wr HU0.out.bx
        have hbl := heap_lt HU0.out.bx
        obtain ⟨WW, hWW⟩ : ∃ f, f = wwF NX (fun _ => false) := ⟨_, rfl⟩
        have HWL : Hid (∀ e, WW e ≤ 1) := Lib.hid fun e => by rw [hWW]; exact ww_le _ _ e
        rw [← hWW] at HU0 HCN2
        clear hWW
        have HTX := Lib.hid (HH.out w (Aft.refl w)).1
        clear HH
        go_wp2_with fail
        clear c0 c1 hbl
        go_loopw [50] (fun s50 wr => ∃ k : Nat, s50 = .int .i64 (k : Int) ∧ k ≤ n1 ∧ Hid (CU w ba bl nl bn nn LA NX bh wr (1000 * n2 + 200 * k) (fun e => ((WW e + sumT NX LA P (h.txs.take (k)) e : Nat) : Int)))) (fun s50 _ => n1 - (intOf s50).toNat)
        case atStart => exact ⟨0, rfl, Nat.zero_le _, HU0⟩
        case round =>
          clear HU0
          obtain ⟨k, rfl, hk, HS⟩ := hrel
          obtain ⟨wA, hwA⟩ : ∃ wA, wA = wr := ⟨_, rfl⟩
          subst hwA
          by_cases hlt : k < n1
          · have hltx : k < h.txs.length := by rw [← HN1.out]; exact hlt
            obtain ⟨g, o, sp, sc, rfl, hg, c0, c1, c2, hs⟩ := (show Txs w (.slice _ h.txs.length c) h.txs from by have := HTX.out; rw [HN1.out] at this; exact this).at_ hltx
            have c0 := HS.out.aft.cell hg c0
            have c1 := HS.out.aft.cell hg c1
            have c2 := HS.out.aft.cell hg c2
            have hg := Nat.lt_of_lt_of_le hg HS.out.aft.size
            have HTK := Lib.hid (fun e => sumT_take NX LA P h.txs k hltx e)
            have HLK := Lib.hid (HSM.out.ops _ (getD_mem hltx))
            have HOKK := Lib.hid (HSM.out.txs _ (getD_mem hltx))
            have HFB : Hid (∀ e, WW e + sumT NX LA P (h.txs.take k) e ≤ 200000 * 1000 + 1) := Lib.hid fun e => by
              have h1 := sumT_le NX LA P (h.txs.take k) e (fun x hx => by have := HSM.out.ops x (List.mem_of_mem_take hx); omega)
              have h2 := HWL.out e
              have h3 := HSM.out.num
              rw [List.length_take] at h1
              omega
            have hk4 : k ≤ 1000 := by have := HSM.out.num; omega
            have hkI : (k : Int) < (n1 : Int) := by omega
            generalize h.txs.getD k Txn.zero = t at c0 c1 c2 hs HTK HLK HOKK
            obtain ⟨ti, td, tl⟩ := t
            simp only at c0 c1 c2 hs HTK HLK HOKK
            have HOP : Hid (∀ X, Aft w X → Oprs 0 X (.slice sp tl.length sc) tl) := Lib.hid fun X hX => (hs.below hX).2
            have HTI : Hid (i64 ti) := Lib.hid HOKK.out.1
            have HOKO : Hid (∀ x ∈ tl, Opr.ok x) := Lib.hid HOKK.out.2
            have hln : tl.length ≤ 100 := HLK.out
            clear hs HLK HOKK
            obtain ⟨FT, hFT⟩ : ∃ f : Edg → Nat, f = fun e => WW e + sumT NX LA P (h.txs.take k) e := ⟨_, rfl⟩
            have HFT := Lib.hid hFT
            have HFB2 : Hid (∀ e, FT e ≤ 200000 * 1000 + 1) := Lib.hid (by rw [hFT]; exact HFB.out)
            clear HFB
            obtain ⟨bx, hbx⟩ : ∃ b, b = boxT ti td (.slice sp tl.length sc) := ⟨_, rfl⟩
            have HBC : Hid (∀ W : World, W.heap[wA.heap.size]? = some bx → W.cell? ⟨wA.heap.size, 0, none⟩ = some (.int .i64 ti) ∧ W.cell? ⟨wA.heap.size, 1, none⟩ = some (.bool td) ∧ W.cell? ⟨wA.heap.size, 2, none⟩ = some (.slice sp tl.length sc)) := Lib.hid fun W hW => by
              rw [hbx] at hW
              exact (cellsT hW).2.1
            have HBA : Hid (ba < wA.heap.size ∧ bn < wA.heap.size) := Lib.hid ⟨HS.out.me.lt, HS.out.mn.lt⟩
            have HI0 : Hid (∀ W, W = wA.alloc (boxT ti td (.slice sp tl.length sc)) → CU w ba bl nl bn nn LA NX bh W (1000 * n2 + 200 * k + 2 * 0) (fun e => ((FT e + sumO NX LA P ti td (tl.take (0)) e : Nat) : Int)) ∧ W.heap[wA.heap.size]? = some bx) := Lib.hid fun W hW => by
              subst hW
              exact ⟨(HS.out.after (Aft.one _)).ext (fun e => by rw [hFT]; simp [sumO]) (by omega), by rw [hbx]; exact heap_alloc_at _ _ _ rfl⟩
            clear HS hbx hFT
            unfold boxT at HI0
            obtain ⟨tn, htn⟩ : ∃ n, n = tl.length := ⟨_, rfl⟩
            rw [← htn] at c2 HBC hln HOP HI0
            have HTN := Lib.hid htn
            clear htn
            go_wp2_with fail
            clear c0 c1 c2
            go_loopw [57] (fun s57 wr => ∃ j : Nat, s57 = .int .i64 (j : Int) ∧ j ≤ tn ∧ Hid (CU w ba bl nl bn nn LA NX bh wr (1000 * n2 + 200 * k + 2 * j) (fun e => ((FT e + sumO NX LA P ti td (tl.take (j)) e : Nat) : Int)) ∧ wr.heap[wA.heap.size]? = some bx)) (fun s57 _ => tn - (intOf s57).toNat)
            case atStart => exact ⟨0, rfl, Nat.zero_le _, Lib.hid (HI0.out _ rfl)⟩
            case round =>
              clear HI0
              obtain ⟨j, rfl, hj, HS⟩ := hrel
              by_cases hlt2 : j < tn
              · have hltl : j < tl.length := by rw [← HTN.out]; exact hlt2
                have HSZ : Hid (wA.heap.size < wr.heap.size) := Lib.hid (heap_lt HS.out.2)
                obtain ⟨p', c', e, _, hc⟩ := (HOP.out _ HS.out.1.aft).open_
                injection e with e1 e2 e3
                subst e1 e3
                clear e2
                obtain ⟨g2, o2, rfl, _, hg2, d0, d1, d2, d3⟩ := hc j hltl
                clear hc
                have HSN := Lib.hid (fun e => sumO_take NX LA P ti td tl j hltl e)
                have HOJ := Lib.hid (HOKO.out _ (getD_memO hltl))
                have HFB3 : Hid (∀ e, FT e + sumO NX LA P ti td (tl.take j) e ≤ 1000000000) := Lib.hid fun e => by
                  have h1 := sumO_le NX LA P ti td (tl.take j) e
                  have h2 := HFB2.out e
                  rw [List.length_take] at h1
                  omega
                have hjI : (j : Int) < (tn : Int) := by omega
                generalize tl.getD j Opr.zero = x at d0 d1 d2 d3 HSN HOJ
                obtain ⟨xr, xk, xt, xn⟩ := x
                dsimp only at d0 d1 d2 d3
                have hwr := HSZ.out
                obtain ⟨X, hX⟩ : ∃ X, X = wr.alloc (boxO ⟨xr, xk, xt, xn⟩) := ⟨_, rfl⟩
                obtain ⟨b9, hb9⟩ : ∃ b, b = wr.heap.size := ⟨_, rfl⟩
                have HD : Hid (CU w ba bl nl bn nn LA NX bh X.drew (1000 * n2 + 200 * k + 2 * j) (fun e => ((FT e + sumO NX LA P ti td (tl.take (j)) e : Nat) : Int)) ∧ X.drew.heap[wA.heap.size]? = some bx ∧ X.drew.heap[b9]? = some (boxO ⟨xr, xk, xt, xn⟩)) := Lib.hid (by
                  rw [hX, hb9]
                  exact ⟨(HS.out.1.after (Aft.one _)).after ((Aft.refl _).drew 1), heap_alloc_lt _ _ _ _ HS.out.2, heap_alloc_at _ _ _ rfl⟩)
                have HNO : Hid (rdC LA P ti td ⟨xr, xk, xt, xn⟩ = false → ∀ e : Edg, ((FT e + sumO NX LA P ti td (tl.take j) e : Nat) : Int) = ((FT e + sumO NX LA P ti td (tl.take (j + 1)) e : Nat) : Int)) := Lib.hid fun e0 e => by rw [HSN.out]; unfold rdE; rw [e0]; simp
                have HYES : Hid (rdC LA P ti td ⟨xr, xk, xt, xn⟩ = true → ∀ e : Edg, ((FT e + sumO NX LA P ti td (tl.take j) e : Nat) : Int) + (rdW ti ⟨xr, xk, xt, xn⟩ e : Nat) + (rdR NX ti ⟨xr, xk, xt, xn⟩ e : Nat) = ((FT e + sumO NX LA P ti td (tl.take (j + 1)) e : Nat) : Int)) := Lib.hid fun e0 e => by rw [HSN.out]; unfold rdE; rw [e0]; simp; omega
                have HRC : Hid (rdC LA P ti td ⟨xr, xk, xt, xn⟩ = (td && xr && decide (xt ≠ ti) && P xk && decide (LA (xt, xk) = xn))) := Lib.hid rfl
                have HRDX : Hid (∀ W n, CU w ba bl nl bn nn LA NX bh W n (fun e => ((FT e + sumO NX LA P ti td (tl.take (j)) e : Nat) : Int)) → n + 2 < maxLen → Calls Try.prog 26 #[.map (some ba), .int .i64 ti, .agg #[.bool xr, .int .i64 xk, .int .i64 xt, .int .i64 xn], .map (some bn)] W (RdP ba n (fun e => ((FT e + sumO NX LA P ti td (tl.take j) e : Nat) : Int) + (rdW ti ⟨xr, xk, xt, xn⟩ e : Nat) + (rdR NX ti ⟨xr, xk, xt, xn⟩ e : Nat)) W)) := Lib.hid fun W n hU hn => read_any ti ⟨xr, xk, xt, xn⟩ W hU.me hU.mn (by have := hU.ord; omega) hn (fun e => ⟨by omega, by have := HFB3.out e; omega⟩) HOJ.out HTI.out (fun qq z hz => (HOK.out qq z hz).2.2)
                have HLK : Hid (∀ W, ML W bl nl LA → (Instr.lookup 68 (.map (some bl)) (.agg #[.int .i64 xt, .int .i64 xk]) false).run Try.prog W = .ok (.int .i64 (LA (xt, xk))) W) := Lib.hid fun W hW => ml_look hW HOJ.out.2.1 HOJ.out.1 rfl
                have HPX : Hid (∀ W, Aft w W → Calls Try.prog F (bd ++ #[.int .i64 xk] ++ lb) W (BoolNew (P xk) W)) := Lib.hid fun W hW => HP.out W xk hW
                have HCZ : Hid (∀ Z : World, Z.heap[wA.heap.size]? = some bx → Z.heap[b9]? = some (boxO ⟨xr, xk, xt, xn⟩) → (Z.cell? ⟨wA.heap.size, 0, none⟩ = some (.int .i64 ti) ∧ Z.cell? ⟨wA.heap.size, 1, none⟩ = some (.bool td)) ∧ Z.cell? ⟨b9, 0, none⟩ = some (.bool xr) ∧ Z.cell? ⟨b9, 1, none⟩ = some (.int .i64 xk) ∧ Z.cell? ⟨b9, 2, none⟩ = some (.int .i64 xt) ∧ Z.cell? ⟨b9, 3, none⟩ = some (.int .i64 xn)) := Lib.hid fun Z h1 h2 => ⟨⟨(HBC.out Z h1).1, (HBC.out Z h1).2.1⟩, (cellsO h2).2.1.1, (cellsO h2).2.1.2.1, (cellsO h2).2.1.2.2.1, (cellsO h2).2.1.2.2.2⟩
                obtain ⟨i0, i1, i2⟩ := HBC.out wr HS.out.2
                have HB9 : Hid (ba < b9 ∧ wA.heap.size < b9) := Lib.hid ⟨by rw [hb9]; have := HBA.out; have := HSZ.out; omega, by rw [hb9]; exact HSZ.out⟩
                clear HS HSN HFB3 HOJ
                generalize LA (xt, xk) = la at HRC HLK
                generalize P xk = pk at HRC HPX
                generalize rdC LA P ti td ⟨xr, xk, xt, xn⟩ = rc at HRC HNO HYES
                unfold boxO at hX
                go_upto_region 17 with fail
                rw [← hX, ← hb9]
                clear hX hb9 i0 i1 i2 d0 d1 d2 d3
                obtain ⟨XD, hXD⟩ : ∃ W, W = X.drew := ⟨_, rfl⟩
                rw [← hXD] at HD
                refine wp_region_held_drew (S := fun Z => (Z.cell? ⟨wA.heap.size, 0, none⟩ = some (.int .i64 ti) ∧ Z.cell? ⟨wA.heap.size, 1, none⟩ = some (.bool td)) ∧ Z.cell? ⟨b9, 0, none⟩ = some (.bool xr) ∧ Z.cell? ⟨b9, 1, none⟩ = some (.int .i64 xk) ∧ Z.cell? ⟨b9, 2, none⟩ = some (.int .i64 xt) ∧ Z.cell? ⟨b9, 3, none⟩ = some (.int .i64 xn)) (by kernel_rfl) (hXD ▸ HCZ.out _ HD.out.2.1 HD.out.2.2) (fun hHeld0 => ?_)
                rw [← hXD] at hHeld0 ⊢
                clear hXD
                cases td with
                | false =>
                  have HRC : Hid (rc = false) := Lib.hid (by rw [HRC.out]; rfl)
                  refine wpAnyH_take (i := 0) (v := ?_) rfl (by kernel_rfl) (by kernel_rfl) (by kernel_rfl) (fun _ _ _ h => h) (Or.inl ⟨by rfl, ?yh1_0⟩) (by assumption) ?qh1_0
                  case yh1_0 => (intro wz hSw; (try dsimp only at hSw); go_simp <;> with_reducible rfl)
                  try simp only [Act.put, List.getElem_toArray, List.getElem_cons_zero, List.setIfInBounds_toArray, List.set_cons_zero, List.set_cons_succ]
                  refine wpAnyH_take (i := 1) (v := ?_) rfl (by kernel_rfl) (by kernel_rfl) (by kernel_rfl) (fun _ _ _ h => h) (Or.inl ⟨by rfl, ?yh1_1⟩) (by assumption) ?qh1_1
                  case yh1_1 => (intro wz hSw; (try dsimp only at hSw); go_simp <;> with_reducible rfl)
                  try simp only [Act.put, List.getElem_toArray, List.getElem_cons_zero, List.getElem_cons_succ, List.setIfInBounds_toArray, List.set_cons_zero, List.set_cons_succ]
                  refine wpAnyH_take (i := 2) (v := ?_) rfl (by kernel_rfl) (by kernel_rfl) (by kernel_rfl) (fun _ _ _ h => h) (Or.inl ⟨by rfl, ?yh1_2⟩) (by assumption) ?qh1_2
                  case yh1_2 => (intro wz hSw; (try dsimp only at hSw); go_simp <;> with_reducible rfl)
                  try simp only [Act.put, List.getElem_toArray, List.getElem_cons_zero, List.getElem_cons_succ, List.setIfInBounds_toArray, List.set_cons_zero, List.set_cons_succ]
                  refine wpAnyH_take (i := 3) (v := undef) rfl (by kernel_rfl) (by kernel_rfl) (by kernel_rfl) (fun _ _ _ h => h) (Or.inr ⟨by rfl, rfl⟩) (by assumption) ?_
                  try simp only [Act.put, List.getElem_toArray, List.getElem_cons_zero, List.getElem_cons_succ, List.setIfInBounds_toArray, List.set_cons_zero, List.set_cons_succ]
                  refine wpAnyH_take (i := 4) (v := undef) rfl (by kernel_rfl) (by kernel_rfl) (by kernel_rfl) (fun _ _ _ h => h) (Or.inr ⟨by rfl, rfl⟩) (by assumption) ?_
                  try simp only [Act.put, List.getElem_toArray, List.getElem_cons_zero, List.getElem_cons_succ, List.setIfInBounds_toArray, List.set_cons_zero, List.set_cons_succ]
                  refine wpAnyH_take (i := 5) (v := ?_) rfl (by kernel_rfl) (by kernel_rfl) (by kernel_rfl) (fun _ _ _ h => h) (Or.inl ⟨by rfl, ?yh1_5⟩) (by assumption) ?qh1_5
                  case yh1_5 => (intro wz hSw; (try dsimp only at hSw); go_simp <;> with_reducible rfl)
                  try simp only [Act.put, List.getElem_toArray, List.getElem_cons_zero, List.getElem_cons_succ, List.setIfInBounds_toArray, List.set_cons_zero, List.set_cons_succ]
                  refine wpAnyH_take (i := 6) (v := ?_) rfl (by kernel_rfl) (by kernel_rfl) (by kernel_rfl) (fun _ _ _ h => h) (Or.inl ⟨by rfl, ?yh1_6⟩) (by assumption) ?qh1_6
                  case yh1_6 => (intro wz hSw; (try dsimp only at hSw); go_simp <;> with_reducible rfl)
                  try simp only [Act.put, List.getElem_toArray, List.getElem_cons_zero, List.getElem_cons_succ, List.setIfInBounds_toArray, List.set_cons_zero, List.set_cons_succ]
                  refine wpAnyH_take (i := 7) (v := undef) rfl (by kernel_rfl) (by kernel_rfl) (by kernel_rfl) (fun _ _ _ h => h) (Or.inr ⟨by rfl, rfl⟩) (by assumption) ?_
                  try simp only [Act.put, List.getElem_toArray, List.getElem_cons_zero, List.getElem_cons_succ, List.setIfInBounds_toArray, List.set_cons_zero, List.set_cons_succ]
                  refine wpAnyH_take (i := 8) (v := undef) rfl (by kernel_rfl) (by kernel_rfl) (by kernel_rfl) (fun _ _ _ h => h) (Or.inr ⟨by rfl, rfl⟩) (by assumption) ?_
                  try simp only [Act.put, List.getElem_toArray, List.getElem_cons_zero, List.getElem_cons_succ, List.setIfInBounds_toArray, List.set_cons_zero, List.set_cons_succ]
                  refine wpAnyH_take (i := 9) (v := undef) rfl (by kernel_rfl) (by kernel_rfl) (by kernel_rfl) (fun _ _ _ h => h) (Or.inr ⟨by rfl, rfl⟩) (by assumption) ?_
                  try simp only [Act.put, List.getElem_toArray, List.getElem_cons_zero, List.getElem_cons_succ, List.setIfInBounds_toArray, List.set_cons_zero, List.set_cons_succ]
                  refine wpAnyH_take (i := 10) (v := undef) rfl (by kernel_rfl) (by kernel_rfl) (by kernel_rfl) (fun _ _ _ h => h) (Or.inr ⟨by rfl, rfl⟩) (by assumption) ?_
                  try simp only [Act.put, List.getElem_toArray, List.getElem_cons_zero, List.getElem_cons_succ, List.setIfInBounds_toArray, List.set_cons_zero, List.set_cons_succ]
                  refine wpAnyH_take (i := 11) (v := undef) rfl (by kernel_rfl) (by kernel_rfl) (by kernel_rfl) (fun _ _ _ h => h) (Or.inr ⟨by rfl, rfl⟩) (by assumption) ?_
                  try simp only [Act.put, List.getElem_toArray, List.getElem_cons_zero, List.getElem_cons_succ, List.setIfInBounds_toArray, List.set_cons_zero, List.set_cons_succ]
                  refine wpAnyH_take (i := 12) (v := ?_) rfl (by kernel_rfl) (by kernel_rfl) (by kernel_rfl) (fun _ _ _ h => h) (Or.inl ⟨by rfl, ?yh1_12⟩) (by assumption) ?qh1_12
                  case yh1_12 => (intro wz hSw; (try dsimp only at hSw); go_simp <;> with_reducible rfl)
                  try simp only [Act.put, List.getElem_toArray, List.getElem_cons_zero, List.getElem_cons_succ, List.setIfInBounds_toArray, List.set_cons_zero, List.set_cons_succ]
                  refine wpAnyH_take (i := 13) (v := ?_) rfl (by kernel_rfl) (by kernel_rfl) (by kernel_rfl) (fun _ _ _ h => h) (Or.inl ⟨by rfl, ?yh1_13⟩) (by assumption) ?qh1_13
                  case yh1_13 => (intro wz hSw; (try dsimp only at hSw); go_simp <;> with_reducible rfl)
                  try simp only [Act.put, List.getElem_toArray, List.getElem_cons_zero, List.getElem_cons_succ, List.setIfInBounds_toArray, List.set_cons_zero, List.set_cons_succ]
                  refine wpAnyH_take (i := 14) (v := undef) rfl (by kernel_rfl) (by kernel_rfl) (by kernel_rfl) (fun _ _ _ h => h) (Or.inr ⟨by rfl, rfl⟩) (by assumption) ?_
                  try simp only [Act.put, List.getElem_toArray, List.getElem_cons_zero, List.getElem_cons_succ, List.setIfInBounds_toArray, List.set_cons_zero, List.set_cons_succ]
                  refine wpAnyH_take (i := 15) (v := undef) rfl (by kernel_rfl) (by kernel_rfl) (by kernel_rfl) (fun _ _ _ h => h) (Or.inr ⟨by rfl, rfl⟩) (by assumption) ?_
                  try simp only [Act.put, List.getElem_toArray, List.getElem_cons_zero, List.getElem_cons_succ, List.setIfInBounds_toArray, List.set_cons_zero, List.set_cons_succ]
                  refine wpAnyH_take (i := 16) (v := undef) rfl (by kernel_rfl) (by kernel_rfl) (by kernel_rfl) (fun _ _ _ h => h) (Or.inr ⟨by rfl, rfl⟩) (by assumption) ?_
                  try simp only [Act.put, List.getElem_toArray, List.getElem_cons_zero, List.getElem_cons_succ, List.setIfInBounds_toArray, List.set_cons_zero, List.set_cons_succ]
                  refine wpAnyH_take (i := 17) (v := undef) rfl (by kernel_rfl) (by kernel_rfl) (by kernel_rfl) (fun _ _ _ h => h) (Or.inr ⟨by rfl, rfl⟩) (by assumption) ?_
                  try simp only [Act.put, List.getElem_toArray, List.getElem_cons_zero, List.getElem_cons_succ, List.setIfInBounds_toArray, List.set_cons_zero, List.set_cons_succ]
                  refine wpAnyH_take (i := 18) (v := ?_) rfl (by kernel_rfl) (by kernel_rfl) (by kernel_rfl) (fun _ _ _ h => h) (Or.inl ⟨by rfl, ?yh1_18⟩) (by assumption) ?qh1_18
                  case yh1_18 => (intro wz hSw; (try dsimp only at hSw); go_simp <;> with_reducible rfl)
                  try simp only [Act.put, List.getElem_toArray, List.getElem_cons_zero, List.getElem_cons_succ, List.setIfInBounds_toArray, List.set_cons_zero, List.set_cons_succ]
                  refine wpAnyH_take (i := 19) (v := ?_) rfl (by kernel_rfl) (by kernel_rfl) (by kernel_rfl) (fun _ _ _ h => h) (Or.inl ⟨by rfl, ?yh1_19⟩) (by assumption) ?qh1_19
                  case yh1_19 => (intro wz hSw; (try dsimp only at hSw); go_simp <;> with_reducible rfl)
                  try simp only [Act.put, List.getElem_toArray, List.getElem_cons_zero, List.getElem_cons_succ, List.setIfInBounds_toArray, List.set_cons_zero, List.set_cons_succ]
                  refine wpAnyH_take (i := 20) (v := undef) rfl (by kernel_rfl) (by kernel_rfl) (by kernel_rfl) (fun _ _ _ h => h) (Or.inr ⟨by rfl, rfl⟩) (by assumption) ?_
                  try simp only [Act.put, List.getElem_toArray, List.getElem_cons_zero, List.getElem_cons_succ, List.setIfInBounds_toArray, List.set_cons_zero, List.set_cons_succ]
                  refine wpAnyH_take (i := 21) (v := undef) rfl (by kernel_rfl) (by kernel_rfl) (by kernel_rfl) (fun _ _ _ h => h) (Or.inr ⟨by rfl, rfl⟩) (by assumption) ?_
                  try simp only [Act.put, List.getElem_toArray, List.getElem_cons_zero, List.getElem_cons_succ, List.setIfInBounds_toArray, List.set_cons_zero, List.set_cons_succ]
                  refine wpAnyH_take (i := 22) (v := undef) rfl (by kernel_rfl) (by kernel_rfl) (by kernel_rfl) (fun _ _ _ h => h) (Or.inr ⟨by rfl, rfl⟩) (by assumption) ?_
                  try simp only [Act.put, List.getElem_toArray, List.getElem_cons_zero, List.getElem_cons_succ, List.setIfInBounds_toArray, List.set_cons_zero, List.set_cons_succ]
                  refine wpAnyH_take (i := 23) (v := undef) rfl (by kernel_rfl) (by kernel_rfl) (by kernel_rfl) (fun _ _ _ h => h) (Or.inr ⟨by rfl, rfl⟩) (by assumption) ?_
                  try simp only [Act.put, List.getElem_toArray, List.getElem_cons_zero, List.getElem_cons_succ, List.setIfInBounds_toArray, List.set_cons_zero, List.set_cons_succ]
                  refine wpAnyH_take (i := 24) (v := undef) rfl (by kernel_rfl) (by kernel_rfl) (by kernel_rfl) (fun _ _ _ h => h) (Or.inr ⟨by rfl, rfl⟩) (by assumption) ?_
                  try simp only [Act.put, List.getElem_toArray, List.getElem_cons_zero, List.getElem_cons_succ, List.setIfInBounds_toArray, List.set_cons_zero, List.set_cons_succ]
                  refine wpAnyH_take (i := 25) (v := undef) rfl (by kernel_rfl) (by kernel_rfl) (by kernel_rfl) (fun _ _ _ h => h) (Or.inr ⟨by rfl, rfl⟩) (by assumption) ?_
                  try simp only [Act.put, List.getElem_toArray, List.getElem_cons_zero, List.getElem_cons_succ, List.setIfInBounds_toArray, List.set_cons_zero, List.set_cons_succ]
                  refine wpAnyH_take (i := 26) (v := undef) rfl (by kernel_rfl) (by kernel_rfl) (by kernel_rfl) (fun _ _ _ h => h) (Or.inr ⟨by rfl, rfl⟩) (by assumption) ?_
                  try simp only [Act.put, List.getElem_toArray, List.getElem_cons_zero, List.getElem_cons_succ, List.setIfInBounds_toArray, List.set_cons_zero, List.set_cons_succ]
                  refine wpAnyH_take (i := 27) (v := undef) rfl (by kernel_rfl) (by kernel_rfl) (by kernel_rfl) (fun _ _ _ h => h) (Or.inr ⟨by rfl, rfl⟩) (by assumption) ?_
                  try simp only [Act.put, List.getElem_toArray, List.getElem_cons_zero, List.getElem_cons_succ, List.setIfInBounds_toArray, List.set_cons_zero, List.set_cons_succ]
                  refine wpAnyH_take (i := 28) (v := undef) rfl (by kernel_rfl) (by kernel_rfl) (by kernel_rfl) (fun _ _ _ h => h) (Or.inr ⟨by rfl, rfl⟩) (by assumption) ?_
                  try simp only [Act.put, List.getElem_toArray, List.getElem_cons_zero, List.getElem_cons_succ, List.setIfInBounds_toArray, List.set_cons_zero, List.set_cons_succ]
                  refine wpAnyH_take (i := 29) (v := undef) rfl (by kernel_rfl) (by kernel_rfl) (by kernel_rfl) (fun _ _ _ h => h) (Or.inr ⟨by rfl, rfl⟩) (by assumption) ?_
                  try simp only [Act.put, List.getElem_toArray, List.getElem_cons_zero, List.getElem_cons_succ, List.setIfInBounds_toArray, List.set_cons_zero, List.set_cons_succ]
                  refine wpAnyH_take (i := 30) (v := ?_) rfl (by kernel_rfl) (by kernel_rfl) (by kernel_rfl) (fun _ _ _ h => h) (Or.inl ⟨by rfl, ?yh1_30⟩) (by assumption) ?qh1_30
                  case yh1_30 => (intro wz hSw; (try dsimp only at hSw); go_simp <;> with_reducible rfl)
                  try simp only [Act.put, List.getElem_toArray, List.getElem_cons_zero, List.getElem_cons_succ, List.setIfInBounds_toArray, List.set_cons_zero, List.set_cons_succ]
                  refine wpAnyH_done (by kernel_rfl) ?_ _
                  have HR : Hid (CU w ba bl nl bn nn LA NX bh XD (1000 * n2 + 200 * k + 2 * (j + 1)) (fun e => ((FT e + sumO NX LA P ti false (tl.take (j + 1)) e : Nat) : Int)) ∧ XD.heap[wA.heap.size]? = some bx) := Lib.hid ⟨HD.out.1.ext (fun e => HNO.out HRC.out e) (by omega), HD.out.2.1⟩
                  clear hHeld0 HNO HYES HRC HRDX HLK HPX HCZ HD
                  go_wp2_with fail
                  go_roundw
                  case rel => exact ⟨j + 1, by go_num, by omega, HR⟩
                  case measure => simp [intOf]; omega
                | true =>
                  cases xr with
                  | false =>
                    have HRC : Hid (rc = false) := Lib.hid (by rw [HRC.out]; rfl)
                    refine wpAnyH_take (i := 0) (v := ?_) rfl (by kernel_rfl) (by kernel_rfl) (by kernel_rfl) (fun _ _ _ h => h) (Or.inl ⟨by rfl, ?yh2_0⟩) (by assumption) ?qh2_0
                    case yh2_0 => (intro wz hSw; (try dsimp only at hSw); go_simp <;> with_reducible rfl)
                    try simp only [Act.put, List.getElem_toArray, List.getElem_cons_zero, List.setIfInBounds_toArray, List.set_cons_zero, List.set_cons_succ]
                    refine wpAnyH_take (i := 1) (v := ?_) rfl (by kernel_rfl) (by kernel_rfl) (by kernel_rfl) (fun _ _ _ h => h) (Or.inl ⟨by rfl, ?yh2_1⟩) (by assumption) ?qh2_1
                    case yh2_1 => (intro wz hSw; (try dsimp only at hSw); go_simp <;> with_reducible rfl)
                    try simp only [Act.put, List.getElem_toArray, List.getElem_cons_zero, List.getElem_cons_succ, List.setIfInBounds_toArray, List.set_cons_zero, List.set_cons_succ]
                    refine wpAnyH_take (i := 2) (v := ?_) rfl (by kernel_rfl) (by kernel_rfl) (by kernel_rfl) (fun _ _ _ h => h) (Or.inl ⟨by rfl, ?yh2_2⟩) (by assumption) ?qh2_2
                    case yh2_2 => (intro wz hSw; (try dsimp only at hSw); go_simp <;> with_reducible rfl)
                    try simp only [Act.put, List.getElem_toArray, List.getElem_cons_zero, List.getElem_cons_succ, List.setIfInBounds_toArray, List.set_cons_zero, List.set_cons_succ]
                    refine wpAnyH_take (i := 3) (v := ?_) rfl (by kernel_rfl) (by kernel_rfl) (by kernel_rfl) (fun _ _ _ h => h) (Or.inl ⟨by rfl, ?yh2_3⟩) (by assumption) ?qh2_3
                    case yh2_3 => (intro wz hSw; (try dsimp only at hSw); go_simp <;> with_reducible rfl)
                    try simp only [Act.put, List.getElem_toArray, List.getElem_cons_zero, List.getElem_cons_succ, List.setIfInBounds_toArray, List.set_cons_zero, List.set_cons_succ]
                    refine wpAnyH_take (i := 4) (v := ?_) rfl (by kernel_rfl) (by kernel_rfl) (by kernel_rfl) (fun _ _ _ h => h) (Or.inl ⟨by rfl, ?yh2_4⟩) (by assumption) ?qh2_4
                    case yh2_4 => (intro wz hSw; (try dsimp only at hSw); go_simp <;> with_reducible rfl)
                    try simp only [Act.put, List.getElem_toArray, List.getElem_cons_zero, List.getElem_cons_succ, List.setIfInBounds_toArray, List.set_cons_zero, List.set_cons_succ]
                    refine wpAnyH_take (i := 5) (v := ?_) rfl (by kernel_rfl) (by kernel_rfl) (by kernel_rfl) (fun _ _ _ h => h) (Or.inl ⟨by rfl, ?yh2_5⟩) (by assumption) ?qh2_5
                    case yh2_5 => (intro wz hSw; (try dsimp only at hSw); go_simp <;> with_reducible rfl)
                    try simp only [Act.put, List.getElem_toArray, List.getElem_cons_zero, List.getElem_cons_succ, List.setIfInBounds_toArray, List.set_cons_zero, List.set_cons_succ]
                    refine wpAnyH_take (i := 6) (v := ?_) rfl (by kernel_rfl) (by kernel_rfl) (by kernel_rfl) (fun _ _ _ h => h) (Or.inl ⟨by rfl, ?yh2_6⟩) (by assumption) ?qh2_6
                    case yh2_6 => (intro wz hSw; (try dsimp only at hSw); go_simp <;> with_reducible rfl)
                    try simp only [Act.put, List.getElem_toArray, List.getElem_cons_zero, List.getElem_cons_succ, List.setIfInBounds_toArray, List.set_cons_zero, List.set_cons_succ]
                    refine wpAnyH_take (i := 7) (v := undef) rfl (by kernel_rfl) (by kernel_rfl) (by kernel_rfl) (fun _ _ _ h => h) (Or.inr ⟨by rfl, rfl⟩) (by assumption) ?_
                    try simp only [Act.put, List.getElem_toArray, List.getElem_cons_zero, List.getElem_cons_succ, List.setIfInBounds_toArray, List.set_cons_zero, List.set_cons_succ]
                    refine wpAnyH_take (i := 8) (v := undef) rfl (by kernel_rfl) (by kernel_rfl) (by kernel_rfl) (fun _ _ _ h => h) (Or.inr ⟨by rfl, rfl⟩) (by assumption) ?_
                    try simp only [Act.put, List.getElem_toArray, List.getElem_cons_zero, List.getElem_cons_succ, List.setIfInBounds_toArray, List.set_cons_zero, List.set_cons_succ]
                    refine wpAnyH_take (i := 9) (v := undef) rfl (by kernel_rfl) (by kernel_rfl) (by kernel_rfl) (fun _ _ _ h => h) (Or.inr ⟨by rfl, rfl⟩) (by assumption) ?_
                    try simp only [Act.put, List.getElem_toArray, List.getElem_cons_zero, List.getElem_cons_succ, List.setIfInBounds_toArray, List.set_cons_zero, List.set_cons_succ]
                    refine wpAnyH_take (i := 10) (v := undef) rfl (by kernel_rfl) (by kernel_rfl) (by kernel_rfl) (fun _ _ _ h => h) (Or.inr ⟨by rfl, rfl⟩) (by assumption) ?_
                    try simp only [Act.put, List.getElem_toArray, List.getElem_cons_zero, List.getElem_cons_succ, List.setIfInBounds_toArray, List.set_cons_zero, List.set_cons_succ]
                    refine wpAnyH_take (i := 11) (v := undef) rfl (by kernel_rfl) (by kernel_rfl) (by kernel_rfl) (fun _ _ _ h => h) (Or.inr ⟨by rfl, rfl⟩) (by assumption) ?_
                    try simp only [Act.put, List.getElem_toArray, List.getElem_cons_zero, List.getElem_cons_succ, List.setIfInBounds_toArray, List.set_cons_zero, List.set_cons_succ]
                    refine wpAnyH_take (i := 12) (v := ?_) rfl (by kernel_rfl) (by kernel_rfl) (by kernel_rfl) (fun _ _ _ h => h) (Or.inl ⟨by rfl, ?yh2_12⟩) (by assumption) ?qh2_12
                    case yh2_12 => (intro wz hSw; (try dsimp only at hSw); go_simp <;> with_reducible rfl)
                    try simp only [Act.put, List.getElem_toArray, List.getElem_cons_zero, List.getElem_cons_succ, List.setIfInBounds_toArray, List.set_cons_zero, List.set_cons_succ]
                    refine wpAnyH_take (i := 13) (v := ?_) rfl (by kernel_rfl) (by kernel_rfl) (by kernel_rfl) (fun _ _ _ h => h) (Or.inl ⟨by rfl, ?yh2_13⟩) (by assumption) ?qh2_13
                    case yh2_13 => (intro wz hSw; (try dsimp only at hSw); go_simp <;> with_reducible rfl)
                    try simp only [Act.put, List.getElem_toArray, List.getElem_cons_zero, List.getElem_cons_succ, List.setIfInBounds_toArray, List.set_cons_zero, List.set_cons_succ]
                    refine wpAnyH_take (i := 14) (v := undef) rfl (by kernel_rfl) (by kernel_rfl) (by kernel_rfl) (fun _ _ _ h => h) (Or.inr ⟨by rfl, rfl⟩) (by assumption) ?_
                    try simp only [Act.put, List.getElem_toArray, List.getElem_cons_zero, List.getElem_cons_succ, List.setIfInBounds_toArray, List.set_cons_zero, List.set_cons_succ]
                    refine wpAnyH_take (i := 15) (v := undef) rfl (by kernel_rfl) (by kernel_rfl) (by kernel_rfl) (fun _ _ _ h => h) (Or.inr ⟨by rfl, rfl⟩) (by assumption) ?_
                    try simp only [Act.put, List.getElem_toArray, List.getElem_cons_zero, List.getElem_cons_succ, List.setIfInBounds_toArray, List.set_cons_zero, List.set_cons_succ]
                    refine wpAnyH_take (i := 16) (v := undef) rfl (by kernel_rfl) (by kernel_rfl) (by kernel_rfl) (fun _ _ _ h => h) (Or.inr ⟨by rfl, rfl⟩) (by assumption) ?_
                    try simp only [Act.put, List.getElem_toArray, List.getElem_cons_zero, List.getElem_cons_succ, List.setIfInBounds_toArray, List.set_cons_zero, List.set_cons_succ]
                    refine wpAnyH_take (i := 17) (v := undef) rfl (by kernel_rfl) (by kernel_rfl) (by kernel_rfl) (fun _ _ _ h => h) (Or.inr ⟨by rfl, rfl⟩) (by assumption) ?_
                    try simp only [Act.put, List.getElem_toArray, List.getElem_cons_zero, List.getElem_cons_succ, List.setIfInBounds_toArray, List.set_cons_zero, List.set_cons_succ]
                    refine wpAnyH_take (i := 18) (v := ?_) rfl (by kernel_rfl) (by kernel_rfl) (by kernel_rfl) (fun _ _ _ h => h) (Or.inl ⟨by rfl, ?yh2_18⟩) (by assumption) ?qh2_18
                    case yh2_18 => (intro wz hSw; (try dsimp only at hSw); go_simp <;> with_reducible rfl)
                    try simp only [Act.put, List.getElem_toArray, List.getElem_cons_zero, List.getElem_cons_succ, List.setIfInBounds_toArray, List.set_cons_zero, List.set_cons_succ]
                    refine wpAnyH_take (i := 19) (v := ?_) rfl (by kernel_rfl) (by kernel_rfl) (by kernel_rfl) (fun _ _ _ h => h) (Or.inl ⟨by rfl, ?yh2_19⟩) (by assumption) ?qh2_19
                    case yh2_19 => (intro wz hSw; (try dsimp only at hSw); go_simp <;> with_reducible rfl)
                    try simp only [Act.put, List.getElem_toArray, List.getElem_cons_zero, List.getElem_cons_succ, List.setIfInBounds_toArray, List.set_cons_zero, List.set_cons_succ]
                    refine wpAnyH_take (i := 20) (v := undef) rfl (by kernel_rfl) (by kernel_rfl) (by kernel_rfl) (fun _ _ _ h => h) (Or.inr ⟨by rfl, rfl⟩) (by assumption) ?_
                    try simp only [Act.put, List.getElem_toArray, List.getElem_cons_zero, List.getElem_cons_succ, List.setIfInBounds_toArray, List.set_cons_zero, List.set_cons_succ]
                    refine wpAnyH_take (i := 21) (v := undef) rfl (by kernel_rfl) (by kernel_rfl) (by kernel_rfl) (fun _ _ _ h => h) (Or.inr ⟨by rfl, rfl⟩) (by assumption) ?_
                    try simp only [Act.put, List.getElem_toArray, List.getElem_cons_zero, List.getElem_cons_succ, List.setIfInBounds_toArray, List.set_cons_zero, List.set_cons_succ]
                    refine wpAnyH_take (i := 22) (v := undef) rfl (by kernel_rfl) (by kernel_rfl) (by kernel_rfl) (fun _ _ _ h => h) (Or.inr ⟨by rfl, rfl⟩) (by assumption) ?_
                    try simp only [Act.put, List.getElem_toArray, List.getElem_cons_zero, List.getElem_cons_succ, List.setIfInBounds_toArray, List.set_cons_zero, List.set_cons_succ]
                    refine wpAnyH_take (i := 23) (v := undef) rfl (by kernel_rfl) (by kernel_rfl) (by kernel_rfl) (fun _ _ _ h => h) (Or.inr ⟨by rfl, rfl⟩) (by assumption) ?_
                    try simp only [Act.put, List.getElem_toArray, List.getElem_cons_zero, List.getElem_cons_succ, List.setIfInBounds_toArray, List.set_cons_zero, List.set_cons_succ]
                    refine wpAnyH_take (i := 24) (v := undef) rfl (by kernel_rfl) (by kernel_rfl) (by kernel_rfl) (fun _ _ _ h => h) (Or.inr ⟨by rfl, rfl⟩) (by assumption) ?_
                    try simp only [Act.put, List.getElem_toArray, List.getElem_cons_zero, List.getElem_cons_succ, List.setIfInBounds_toArray, List.set_cons_zero, List.set_cons_succ]
                    refine wpAnyH_take (i := 25) (v := undef) rfl (by kernel_rfl) (by kernel_rfl) (by kernel_rfl) (fun _ _ _ h => h) (Or.inr ⟨by rfl, rfl⟩) (by assumption) ?_
                    try simp only [Act.put, List.getElem_toArray, List.getElem_cons_zero, List.getElem_cons_succ, List.setIfInBounds_toArray, List.set_cons_zero, List.set_cons_succ]
                    refine wpAnyH_take (i := 26) (v := undef) rfl (by kernel_rfl) (by kernel_rfl) (by kernel_rfl) (fun _ _ _ h => h) (Or.inr ⟨by rfl, rfl⟩) (by assumption) ?_
                    try simp only [Act.put, List.getElem_toArray, List.getElem_cons_zero, List.getElem_cons_succ, List.setIfInBounds_toArray, List.set_cons_zero, List.set_cons_succ]
                    refine wpAnyH_take (i := 27) (v := undef) rfl (by kernel_rfl) (by kernel_rfl) (by kernel_rfl) (fun _ _ _ h => h) (Or.inr ⟨by rfl, rfl⟩) (by assumption) ?_
                    try simp only [Act.put, List.getElem_toArray, List.getElem_cons_zero, List.getElem_cons_succ, List.setIfInBounds_toArray, List.set_cons_zero, List.set_cons_succ]
                    refine wpAnyH_take (i := 28) (v := undef) rfl (by kernel_rfl) (by kernel_rfl) (by kernel_rfl) (fun _ _ _ h => h) (Or.inr ⟨by rfl, rfl⟩) (by assumption) ?_
                    try simp only [Act.put, List.getElem_toArray, List.getElem_cons_zero, List.getElem_cons_succ, List.setIfInBounds_toArray, List.set_cons_zero, List.set_cons_succ]
                    refine wpAnyH_take (i := 29) (v := undef) rfl (by kernel_rfl) (by kernel_rfl) (by kernel_rfl) (fun _ _ _ h => h) (Or.inr ⟨by rfl, rfl⟩) (by assumption) ?_
                    try simp only [Act.put, List.getElem_toArray, List.getElem_cons_zero, List.getElem_cons_succ, List.setIfInBounds_toArray, List.set_cons_zero, List.set_cons_succ]
                    refine wpAnyH_take (i := 30) (v := ?_) rfl (by kernel_rfl) (by kernel_rfl) (by kernel_rfl) (fun _ _ _ h => h) (Or.inl ⟨by rfl, ?yh2_30⟩) (by assumption) ?qh2_30
                    case yh2_30 => (intro wz hSw; (try dsimp only at hSw); go_simp <;> with_reducible rfl)
                    try simp only [Act.put, List.getElem_toArray, List.getElem_cons_zero, List.getElem_cons_succ, List.setIfInBounds_toArray, List.set_cons_zero, List.set_cons_succ]
                    refine wpAnyH_done (by kernel_rfl) ?_ _
                    have HR : Hid (CU w ba bl nl bn nn LA NX bh XD (1000 * n2 + 200 * k + 2 * (j + 1)) (fun e => ((FT e + sumO NX LA P ti true (tl.take (j + 1)) e : Nat) : Int)) ∧ XD.heap[wA.heap.size]? = some bx) := Lib.hid ⟨HD.out.1.ext (fun e => HNO.out HRC.out e) (by omega), HD.out.2.1⟩
                    clear hHeld0 HNO HYES HRC HRDX HLK HPX HCZ HD
                    go_wp2_with fail
                    go_roundw
                    case rel => exact ⟨j + 1, by go_num, by omega, HR⟩
                    case measure => simp [intOf]; omega
                  | true =>
                    by_cases hti : xt = ti
                    · have hne : (xt != ti) = false := by simp [hti]
                      have HRC : Hid (rc = false) := Lib.hid (by rw [HRC.out]; simp [hti])
                      clear hti
                      refine wpAnyH_take (i := 0) (v := ?_) rfl (by kernel_rfl) (by kernel_rfl) (by kernel_rfl) (fun _ _ _ h => h) (Or.inl ⟨by rfl, ?yh3_0⟩) (by assumption) ?qh3_0
                      case yh3_0 => (intro wz hSw; (try dsimp only at hSw); go_simp <;> with_reducible rfl)
                      try simp only [Act.put, List.getElem_toArray, List.getElem_cons_zero, List.setIfInBounds_toArray, List.set_cons_zero, List.set_cons_succ]
                      refine wpAnyH_take (i := 1) (v := ?_) rfl (by kernel_rfl) (by kernel_rfl) (by kernel_rfl) (fun _ _ _ h => h) (Or.inl ⟨by rfl, ?yh3_1⟩) (by assumption) ?qh3_1
                      case yh3_1 => (intro wz hSw; (try dsimp only at hSw); go_simp <;> with_reducible rfl)
                      try simp only [Act.put, List.getElem_toArray, List.getElem_cons_zero, List.getElem_cons_succ, List.setIfInBounds_toArray, List.set_cons_zero, List.set_cons_succ]
                      refine wpAnyH_take (i := 2) (v := ?_) rfl (by kernel_rfl) (by kernel_rfl) (by kernel_rfl) (fun _ _ _ h => h) (Or.inl ⟨by rfl, ?yh3_2⟩) (by assumption) ?qh3_2
                      case yh3_2 => (intro wz hSw; (try dsimp only at hSw); go_simp <;> with_reducible rfl)
                      try simp only [Act.put, List.getElem_toArray, List.getElem_cons_zero, List.getElem_cons_succ, List.setIfInBounds_toArray, List.set_cons_zero, List.set_cons_succ]
                      refine wpAnyH_take (i := 3) (v := ?_) rfl (by kernel_rfl) (by kernel_rfl) (by kernel_rfl) (fun _ _ _ h => h) (Or.inl ⟨by rfl, ?yh3_3⟩) (by assumption) ?qh3_3
                      case yh3_3 => (intro wz hSw; (try dsimp only at hSw); go_simp <;> with_reducible rfl)
                      try simp only [Act.put, List.getElem_toArray, List.getElem_cons_zero, List.getElem_cons_succ, List.setIfInBounds_toArray, List.set_cons_zero, List.set_cons_succ]
                      refine wpAnyH_take (i := 4) (v := ?_) rfl (by kernel_rfl) (by kernel_rfl) (by kernel_rfl) (fun _ _ _ h => h) (Or.inl ⟨by rfl, ?yh3_4⟩) (by assumption) ?qh3_4
                      case yh3_4 => (intro wz hSw; (try dsimp only at hSw); go_simp <;> with_reducible rfl)
                      try simp only [Act.put, List.getElem_toArray, List.getElem_cons_zero, List.getElem_cons_succ, List.setIfInBounds_toArray, List.set_cons_zero, List.set_cons_succ]
                      refine wpAnyH_take (i := 5) (v := ?_) rfl (by kernel_rfl) (by kernel_rfl) (by kernel_rfl) (fun _ _ _ h => h) (Or.inl ⟨by rfl, ?yh3_5⟩) (by assumption) ?qh3_5
                      case yh3_5 => (intro wz hSw; (try dsimp only at hSw); go_simp <;> with_reducible rfl)
                      try simp only [Act.put, List.getElem_toArray, List.getElem_cons_zero, List.getElem_cons_succ, List.setIfInBounds_toArray, List.set_cons_zero, List.set_cons_succ]
                      refine wpAnyH_take (i := 6) (v := ?_) rfl (by kernel_rfl) (by kernel_rfl) (by kernel_rfl) (fun _ _ _ h => h) (Or.inl ⟨by rfl, ?yh3_6⟩) (by assumption) ?qh3_6
                      case yh3_6 => (intro wz hSw; (try dsimp only at hSw); go_simp <;> with_reducible rfl)
                      try simp only [Act.put, List.getElem_toArray, List.getElem_cons_zero, List.getElem_cons_succ, List.setIfInBounds_toArray, List.set_cons_zero, List.set_cons_succ]
                      refine wpAnyH_take (i := 7) (v := ?_) rfl (by kernel_rfl) (by kernel_rfl) (by kernel_rfl) (fun _ _ _ h => h) (Or.inl ⟨by rfl, ?yh3_7⟩) (by assumption) ?qh3_7
                      case yh3_7 => (intro wz hSw; (try dsimp only at hSw); go_simp <;> with_reducible rfl)
                      try simp only [Act.put, List.getElem_toArray, List.getElem_cons_zero, List.getElem_cons_succ, List.setIfInBounds_toArray, List.set_cons_zero, List.set_cons_succ]
                      refine wpAnyH_take (i := 8) (v := ?_) rfl (by kernel_rfl) (by kernel_rfl) (by kernel_rfl) (fun _ _ _ h => h) (Or.inl ⟨by rfl, ?yh3_8⟩) (by assumption) ?qh3_8
                      case yh3_8 => (intro wz hSw; (try dsimp only at hSw); go_simp <;> with_reducible rfl)
                      try simp only [Act.put, List.getElem_toArray, List.getElem_cons_zero, List.getElem_cons_succ, List.setIfInBounds_toArray, List.set_cons_zero, List.set_cons_succ]
                      refine wpAnyH_take (i := 9) (v := ?_) rfl (by kernel_rfl) (by kernel_rfl) (by kernel_rfl) (fun _ _ _ h => h) (Or.inl ⟨by rfl, ?yh3_9⟩) (by assumption) ?qh3_9
                      case yh3_9 => (intro wz hSw; (try dsimp only at hSw); go_simp <;> with_reducible rfl)
                      try simp only [Act.put, List.getElem_toArray, List.getElem_cons_zero, List.getElem_cons_succ, List.setIfInBounds_toArray, List.set_cons_zero, List.set_cons_succ]
                      refine wpAnyH_take (i := 10) (v := ?_) rfl (by kernel_rfl) (by kernel_rfl) (by kernel_rfl) (fun _ _ _ h => h) (Or.inl ⟨by rfl, ?yh3_10⟩) (by assumption) ?qh3_10
                      case yh3_10 => (intro wz hSw; (try dsimp only at hSw); go_simp <;> with_reducible rfl)
                      try simp only [Act.put, List.getElem_toArray, List.getElem_cons_zero, List.getElem_cons_succ, List.setIfInBounds_toArray, List.set_cons_zero, List.set_cons_succ]
                      refine wpAnyH_take (i := 11) (v := ?_) rfl (by kernel_rfl) (by kernel_rfl) (by kernel_rfl) (fun _ _ _ h => h) (Or.inl ⟨by rfl, ?yh3_11⟩) (by assumption) ?qh3_11
                      case yh3_11 => (intro wz hSw; (try dsimp only at hSw); go_simp <;> with_reducible rfl)
                      try simp only [Act.put, List.getElem_toArray, List.getElem_cons_zero, List.getElem_cons_succ, List.setIfInBounds_toArray, List.set_cons_zero, List.set_cons_succ]
                      refine wpAnyH_take (i := 12) (v := ?_) rfl (by kernel_rfl) (by kernel_rfl) (by kernel_rfl) (fun _ _ _ h => h) (Or.inl ⟨by rfl, ?yh3_12⟩) (by assumption) ?qh3_12
                      case yh3_12 => (intro wz hSw; (try dsimp only at hSw); go_simp <;> with_reducible rfl)
                      try simp only [Act.put, List.getElem_toArray, List.getElem_cons_zero, List.getElem_cons_succ, List.setIfInBounds_toArray, List.set_cons_zero, List.set_cons_succ]
                      refine wpAnyH_take (i := 13) (v := ?_) rfl (by kernel_rfl) (by kernel_rfl) (by kernel_rfl) (fun _ _ _ h => h) (Or.inl ⟨by rfl, ?yh3_13⟩) (by assumption) ?qh3_13
                      case yh3_13 => (intro wz hSw; (try dsimp only at hSw); go_simp <;> with_reducible rfl)
                      try simp only [Act.put, List.getElem_toArray, List.getElem_cons_zero, List.getElem_cons_succ, List.setIfInBounds_toArray, List.set_cons_zero, List.set_cons_succ]
                      refine wpAnyH_take (i := 14) (v := undef) rfl (by kernel_rfl) (by kernel_rfl) (by kernel_rfl) (fun _ _ _ h => h) (Or.inr ⟨by rfl, rfl⟩) (by assumption) ?_
                      try simp only [Act.put, List.getElem_toArray, List.getElem_cons_zero, List.getElem_cons_succ, List.setIfInBounds_toArray, List.set_cons_zero, List.set_cons_succ]
                      refine wpAnyH_take (i := 15) (v := undef) rfl (by kernel_rfl) (by kernel_rfl) (by kernel_rfl) (fun _ _ _ h => h) (Or.inr ⟨by rfl, rfl⟩) (by assumption) ?_
                      try simp only [Act.put, List.getElem_toArray, List.getElem_cons_zero, List.getElem_cons_succ, List.setIfInBounds_toArray, List.set_cons_zero, List.set_cons_succ]
                      refine wpAnyH_take (i := 16) (v := undef) rfl (by kernel_rfl) (by kernel_rfl) (by kernel_rfl) (fun _ _ _ h => h) (Or.inr ⟨by rfl, rfl⟩) (by assumption) ?_
                      try simp only [Act.put, List.getElem_toArray, List.getElem_cons_zero, List.getElem_cons_succ, List.setIfInBounds_toArray, List.set_cons_zero, List.set_cons_succ]
                      refine wpAnyH_take (i := 17) (v := undef) rfl (by kernel_rfl) (by kernel_rfl) (by kernel_rfl) (fun _ _ _ h => h) (Or.inr ⟨by rfl, rfl⟩) (by assumption) ?_
                      try simp only [Act.put, List.getElem_toArray, List.getElem_cons_zero, List.getElem_cons_succ, List.setIfInBounds_toArray, List.set_cons_zero, List.set_cons_succ]
                      refine wpAnyH_take (i := 18) (v := ?_) rfl (by kernel_rfl) (by kernel_rfl) (by kernel_rfl) (fun _ _ _ h => h) (Or.inl ⟨by rfl, ?yh3_18⟩) (by assumption) ?qh3_18
                      case yh3_18 => (intro wz hSw; (try dsimp only at hSw); go_simp <;> with_reducible rfl)
                      try simp only [Act.put, List.getElem_toArray, List.getElem_cons_zero, List.getElem_cons_succ, List.setIfInBounds_toArray, List.set_cons_zero, List.set_cons_succ]
                      refine wpAnyH_take (i := 19) (v := ?_) rfl (by kernel_rfl) (by kernel_rfl) (by kernel_rfl) (fun _ _ _ h => h) (Or.inl ⟨by rfl, ?yh3_19⟩) (by assumption) ?qh3_19
                      case yh3_19 => (intro wz hSw; (try dsimp only at hSw); go_simp <;> with_reducible rfl)
                      try simp only [Act.put, List.getElem_toArray, List.getElem_cons_zero, List.getElem_cons_succ, List.setIfInBounds_toArray, List.set_cons_zero, List.set_cons_succ]
                      refine wpAnyH_take (i := 20) (v := undef) rfl (by kernel_rfl) (by kernel_rfl) (by kernel_rfl) (fun _ _ _ h => h) (Or.inr ⟨by rfl, rfl⟩) (by assumption) ?_
                      try simp only [Act.put, List.getElem_toArray, List.getElem_cons_zero, List.getElem_cons_succ, List.setIfInBounds_toArray, List.set_cons_zero, List.set_cons_succ]
                      refine wpAnyH_take (i := 21) (v := undef) rfl (by kernel_rfl) (by kernel_rfl) (by kernel_rfl) (fun _ _ _ h => h) (Or.inr ⟨by rfl, rfl⟩) (by assumption) ?_
                      try simp only [Act.put, List.getElem_toArray, List.getElem_cons_zero, List.getElem_cons_succ, List.setIfInBounds_toArray, List.set_cons_zero, List.set_cons_succ]
                      refine wpAnyH_take (i := 22) (v := undef) rfl (by kernel_rfl) (by kernel_rfl) (by kernel_rfl) (fun _ _ _ h => h) (Or.inr ⟨by rfl, rfl⟩) (by assumption) ?_
                      try simp only [Act.put, List.getElem_toArray, List.getElem_cons_zero, List.getElem_cons_succ, List.setIfInBounds_toArray, List.set_cons_zero, List.set_cons_succ]
                      refine wpAnyH_take (i := 23) (v := undef) rfl (by kernel_rfl) (by kernel_rfl) (by kernel_rfl) (fun _ _ _ h => h) (Or.inr ⟨by rfl, rfl⟩) (by assumption) ?_
                      try simp only [Act.put, List.getElem_toArray, List.getElem_cons_zero, List.getElem_cons_succ, List.setIfInBounds_toArray, List.set_cons_zero, List.set_cons_succ]
                      refine wpAnyH_take (i := 24) (v := undef) rfl (by kernel_rfl) (by kernel_rfl) (by kernel_rfl) (fun _ _ _ h => h) (Or.inr ⟨by rfl, rfl⟩) (by assumption) ?_
                      try simp only [Act.put, List.getElem_toArray, List.getElem_cons_zero, List.getElem_cons_succ, List.setIfInBounds_toArray, List.set_cons_zero, List.set_cons_succ]
                      refine wpAnyH_take (i := 25) (v := undef) rfl (by kernel_rfl) (by kernel_rfl) (by kernel_rfl) (fun _ _ _ h => h) (Or.inr ⟨by rfl, rfl⟩) (by assumption) ?_
                      try simp only [Act.put, List.getElem_toArray, List.getElem_cons_zero, List.getElem_cons_succ, List.setIfInBounds_toArray, List.set_cons_zero, List.set_cons_succ]
                      refine wpAnyH_take (i := 26) (v := undef) rfl (by kernel_rfl) (by kernel_rfl) (by kernel_rfl) (fun _ _ _ h => h) (Or.inr ⟨by rfl, rfl⟩) (by assumption) ?_
                      try simp only [Act.put, List.getElem_toArray, List.getElem_cons_zero, List.getElem_cons_succ, List.setIfInBounds_toArray, List.set_cons_zero, List.set_cons_succ]
                      refine wpAnyH_take (i := 27) (v := undef) rfl (by kernel_rfl) (by kernel_rfl) (by kernel_rfl) (fun _ _ _ h => h) (Or.inr ⟨by rfl, rfl⟩) (by assumption) ?_
                      try simp only [Act.put, List.getElem_toArray, List.getElem_cons_zero, List.getElem_cons_succ, List.setIfInBounds_toArray, List.set_cons_zero, List.set_cons_succ]
                      refine wpAnyH_take (i := 28) (v := undef) rfl (by kernel_rfl) (by kernel_rfl) (by kernel_rfl) (fun _ _ _ h => h) (Or.inr ⟨by rfl, rfl⟩) (by assumption) ?_
                      try simp only [Act.put, List.getElem_toArray, List.getElem_cons_zero, List.getElem_cons_succ, List.setIfInBounds_toArray, List.set_cons_zero, List.set_cons_succ]
                      refine wpAnyH_take (i := 29) (v := undef) rfl (by kernel_rfl) (by kernel_rfl) (by kernel_rfl) (fun _ _ _ h => h) (Or.inr ⟨by rfl, rfl⟩) (by assumption) ?_
                      try simp only [Act.put, List.getElem_toArray, List.getElem_cons_zero, List.getElem_cons_succ, List.setIfInBounds_toArray, List.set_cons_zero, List.set_cons_succ]
                      refine wpAnyH_take (i := 30) (v := ?_) rfl (by kernel_rfl) (by kernel_rfl) (by kernel_rfl) (fun _ _ _ h => h) (Or.inl ⟨by rfl, ?yh3_30⟩) (by assumption) ?qh3_30
                      case yh3_30 => (intro wz hSw; (try dsimp only at hSw); go_simp <;> with_reducible rfl)
                      try simp only [Act.put, List.getElem_toArray, List.getElem_cons_zero, List.getElem_cons_succ, List.setIfInBounds_toArray, List.set_cons_zero, List.set_cons_succ]
                      refine wpAnyH_done (by kernel_rfl) ?_ _
                      have HR : Hid (CU w ba bl nl bn nn LA NX bh XD (1000 * n2 + 200 * k + 2 * (j + 1)) (fun e => ((FT e + sumO NX LA P ti true (tl.take (j + 1)) e : Nat) : Int)) ∧ XD.heap[wA.heap.size]? = some bx) := Lib.hid ⟨HD.out.1.ext (fun e => HNO.out HRC.out e) (by omega), HD.out.2.1⟩
                      clear hHeld0 HNO HYES HRC HRDX HLK HPX HCZ HD
                      go_wp2_with fail
                      go_roundw
                      case rel => exact ⟨j + 1, by go_num, by omega, HR⟩
                      case measure => simp [intOf]; omega
                    · have hne : (xt != ti) = true := by simp [hti]
                      have HRC : Hid (rc = (pk && decide (la = xn))) := Lib.hid (by rw [HRC.out]; simp [hti])
                      clear hti
                      refine wpAnyH_take (i := 0) (v := ?_) rfl (by kernel_rfl) (by kernel_rfl) (by kernel_rfl) (fun _ _ _ h => h) (Or.inl ⟨by rfl, ?yh4_0⟩) (by assumption) ?qh4_0
                      case yh4_0 => (intro wz hSw; (try dsimp only at hSw); go_simp <;> with_reducible rfl)
                      try simp only [Act.put, List.getElem_toArray, List.getElem_cons_zero, List.setIfInBounds_toArray, List.set_cons_zero, List.set_cons_succ]
                      refine wpAnyH_take (i := 1) (v := ?_) rfl (by kernel_rfl) (by kernel_rfl) (by kernel_rfl) (fun _ _ _ h => h) (Or.inl ⟨by rfl, ?yh4_1⟩) (by assumption) ?qh4_1
                      case yh4_1 => (intro wz hSw; (try dsimp only at hSw); go_simp <;> with_reducible rfl)
                      try simp only [Act.put, List.getElem_toArray, List.getElem_cons_zero, List.getElem_cons_succ, List.setIfInBounds_toArray, List.set_cons_zero, List.set_cons_succ]
                      refine wpAnyH_take (i := 2) (v := ?_) rfl (by kernel_rfl) (by kernel_rfl) (by kernel_rfl) (fun _ _ _ h => h) (Or.inl ⟨by rfl, ?yh4_2⟩) (by assumption) ?qh4_2
                      case yh4_2 => (intro wz hSw; (try dsimp only at hSw); go_simp <;> with_reducible rfl)
                      try simp only [Act.put, List.getElem_toArray, List.getElem_cons_zero, List.getElem_cons_succ, List.setIfInBounds_toArray, List.set_cons_zero, List.set_cons_succ]
                      refine wpAnyH_take (i := 3) (v := ?_) rfl (by kernel_rfl) (by kernel_rfl) (by kernel_rfl) (fun _ _ _ h => h) (Or.inl ⟨by rfl, ?yh4_3⟩) (by assumption) ?qh4_3
                      case yh4_3 => (intro wz hSw; (try dsimp only at hSw); go_simp <;> with_reducible rfl)
                      try simp only [Act.put, List.getElem_toArray, List.getElem_cons_zero, List.getElem_cons_succ, List.setIfInBounds_toArray, List.set_cons_zero, List.set_cons_succ]
                      refine wpAnyH_take (i := 4) (v := ?_) rfl (by kernel_rfl) (by kernel_rfl) (by kernel_rfl) (fun _ _ _ h => h) (Or.inl ⟨by rfl, ?yh4_4⟩) (by assumption) ?qh4_4
                      case yh4_4 => (intro wz hSw; (try dsimp only at hSw); go_simp <;> with_reducible rfl)
                      try simp only [Act.put, List.getElem_toArray, List.getElem_cons_zero, List.getElem_cons_succ, List.setIfInBounds_toArray, List.set_cons_zero, List.set_cons_succ]
                      refine wpAnyH_take (i := 5) (v := ?_) rfl (by kernel_rfl) (by kernel_rfl) (by kernel_rfl) (fun _ _ _ h => h) (Or.inl ⟨by rfl, ?yh4_5⟩) (by assumption) ?qh4_5
                      case yh4_5 => (intro wz hSw; (try dsimp only at hSw); go_simp <;> with_reducible rfl)
                      try simp only [Act.put, List.getElem_toArray, List.getElem_cons_zero, List.getElem_cons_succ, List.setIfInBounds_toArray, List.set_cons_zero, List.set_cons_succ]
                      refine wpAnyH_take (i := 6) (v := ?_) rfl (by kernel_rfl) (by kernel_rfl) (by kernel_rfl) (fun _ _ _ h => h) (Or.inl ⟨by rfl, ?yh4_6⟩) (by assumption) ?qh4_6
                      case yh4_6 => (intro wz hSw; (try dsimp only at hSw); go_simp <;> with_reducible rfl)
                      try simp only [Act.put, List.getElem_toArray, List.getElem_cons_zero, List.getElem_cons_succ, List.setIfInBounds_toArray, List.set_cons_zero, List.set_cons_succ]
                      refine wpAnyH_take (i := 7) (v := ?_) rfl (by kernel_rfl) (by kernel_rfl) (by kernel_rfl) (fun _ _ _ h => h) (Or.inl ⟨by rfl, ?yh4_7⟩) (by assumption) ?qh4_7
                      case yh4_7 => (intro wz hSw; (try dsimp only at hSw); go_simp <;> with_reducible rfl)
                      try simp only [Act.put, List.getElem_toArray, List.getElem_cons_zero, List.getElem_cons_succ, List.setIfInBounds_toArray, List.set_cons_zero, List.set_cons_succ]
                      refine wpAnyH_take (i := 8) (v := ?_) rfl (by kernel_rfl) (by kernel_rfl) (by kernel_rfl) (fun _ _ _ h => h) (Or.inl ⟨by rfl, ?yh4_8⟩) (by assumption) ?qh4_8
                      case yh4_8 => (intro wz hSw; (try dsimp only at hSw); go_simp <;> with_reducible rfl)
                      try simp only [Act.put, List.getElem_toArray, List.getElem_cons_zero, List.getElem_cons_succ, List.setIfInBounds_toArray, List.set_cons_zero, List.set_cons_succ]
                      refine wpAnyH_take (i := 9) (v := ?_) rfl (by kernel_rfl) (by kernel_rfl) (by kernel_rfl) (fun _ _ _ h => h) (Or.inl ⟨by rfl, ?yh4_9⟩) (by assumption) ?qh4_9
                      case yh4_9 => (intro wz hSw; (try dsimp only at hSw); go_simp <;> with_reducible rfl)
                      try simp only [Act.put, List.getElem_toArray, List.getElem_cons_zero, List.getElem_cons_succ, List.setIfInBounds_toArray, List.set_cons_zero, List.set_cons_succ]
                      refine wpAnyH_take (i := 10) (v := ?_) rfl (by kernel_rfl) (by kernel_rfl) (by kernel_rfl) (fun _ _ _ h => h) (Or.inl ⟨by rfl, ?yh4_10⟩) (by assumption) ?qh4_10
                      case yh4_10 => (intro wz hSw; (try dsimp only at hSw); go_simp <;> with_reducible rfl)
                      try simp only [Act.put, List.getElem_toArray, List.getElem_cons_zero, List.getElem_cons_succ, List.setIfInBounds_toArray, List.set_cons_zero, List.set_cons_succ]
                      refine wpAnyH_take (i := 11) (v := ?_) rfl (by kernel_rfl) (by kernel_rfl) (by kernel_rfl) (fun _ _ _ h => h) (Or.inl ⟨by rfl, ?yh4_11⟩) (by assumption) ?qh4_11
                      case yh4_11 => (intro wz hSw; (try dsimp only at hSw); go_simp <;> with_reducible rfl)
                      try simp only [Act.put, List.getElem_toArray, List.getElem_cons_zero, List.getElem_cons_succ, List.setIfInBounds_toArray, List.set_cons_zero, List.set_cons_succ]
                      refine wpAnyH_take (i := 12) (v := ?_) rfl (by kernel_rfl) (by kernel_rfl) (by kernel_rfl) (fun _ _ _ h => h) (Or.inl ⟨by rfl, ?yh4_12⟩) (by assumption) ?qh4_12
                      case yh4_12 => (intro wz hSw; (try dsimp only at hSw); go_simp <;> with_reducible rfl)
                      try simp only [Act.put, List.getElem_toArray, List.getElem_cons_zero, List.getElem_cons_succ, List.setIfInBounds_toArray, List.set_cons_zero, List.set_cons_succ]
                      refine wpAnyH_take (i := 13) (v := ?_) rfl (by kernel_rfl) (by kernel_rfl) (by kernel_rfl) (fun _ _ _ h => h) (Or.inl ⟨by rfl, ?yh4_13⟩) (by assumption) ?qh4_13
                      case yh4_13 => (intro wz hSw; (try dsimp only at hSw); go_simp <;> with_reducible rfl)
                      try simp only [Act.put, List.getElem_toArray, List.getElem_cons_zero, List.getElem_cons_succ, List.setIfInBounds_toArray, List.set_cons_zero, List.set_cons_succ]
                      refine wpAnyH_take (i := 14) (v := ?_) rfl (by kernel_rfl) (by kernel_rfl) (by kernel_rfl) (fun _ _ _ h => h) (Or.inl ⟨by rfl, ?yh4_14⟩) (by assumption) ?qh4_14
                      case yh4_14 => (intro wz hSw; (try dsimp only at hSw); go_simp <;> with_reducible rfl)
                      try simp only [Act.put, List.getElem_toArray, List.getElem_cons_zero, List.getElem_cons_succ, List.setIfInBounds_toArray, List.set_cons_zero, List.set_cons_succ]
                      refine wpAnyH_take (i := 15) (v := ?_) rfl (by kernel_rfl) (by kernel_rfl) (by kernel_rfl) (fun _ _ _ h => h) (Or.inl ⟨by rfl, ?yh4_15⟩) (by assumption) ?qh4_15
                      case yh4_15 => (intro wz hSw; (try dsimp only at hSw); go_simp <;> with_reducible rfl)
                      try simp only [Act.put, List.getElem_toArray, List.getElem_cons_zero, List.getElem_cons_succ, List.setIfInBounds_toArray, List.set_cons_zero, List.set_cons_succ]
                      refine wpAnyH_take (i := 16) (v := ?_) rfl (by kernel_rfl) (by kernel_rfl) (by kernel_rfl) (fun _ _ _ h => h) (Or.inl ⟨by rfl, ?yh4_16⟩) (by assumption) ?qh4_16
                      case yh4_16 => (intro wz hSw; (try dsimp only at hSw); go_simp <;> with_reducible rfl)
                      try simp only [Act.put, List.getElem_toArray, List.getElem_cons_zero, List.getElem_cons_succ, List.setIfInBounds_toArray, List.set_cons_zero, List.set_cons_succ]
                      refine wpAnyH_ready (rs := [17]) (by kernel_rfl) (by simp) ?_
                      refine AllReadyH.cons rfl (fun K hK => ?_) AllReadyH.nil
                      repeat (first | (refine (HPX.out XD HD.out.1.aft).mono ?_) | go_step)
                      rintro e w5 ⟨rfl, ha⟩
                      have HD5 : Hid (CU w ba bl nl bn nn LA NX bh w5 (1000 * n2 + 200 * k + 2 * j) (fun e => ((FT e + sumO NX LA P ti true (tl.take (j)) e : Nat) : Int)) ∧ w5.heap[wA.heap.size]? = some bx ∧ w5.heap[b9]? = some (boxO ⟨true, xk, xt, xn⟩)) := Lib.hid ⟨HD.out.1.after ha, (ha.block _ (heap_lt HD.out.2.1)).trans HD.out.2.1, (ha.block _ (heap_lt HD.out.2.2)).trans HD.out.2.2⟩
                      clear ha
                      refine hK.out _ _ (HCZ.out _ HD5.out.2.1 HD5.out.2.2) (fun hHeld1 => ?_)
                      clear hK K
                      try simp only [Act.put, List.getElem_toArray, List.getElem_cons_zero, List.getElem_cons_succ, List.setIfInBounds_toArray, List.set_cons_zero, List.set_cons_succ]
                      cases pk with
                      | false =>
                        have HRC : Hid (rc = false) := Lib.hid (by rw [HRC.out]; rfl)
                        refine wpAnyH_take (i := 18) (v := ?_) rfl (by kernel_rfl) (by kernel_rfl) (by kernel_rfl) (fun _ _ _ h => h) (Or.inl ⟨by rfl, ?yh5_18⟩) (by assumption) ?qh5_18
                        case yh5_18 => (intro wz hSw; (try dsimp only at hSw); go_simp <;> with_reducible rfl)
                        try simp only [Act.put, List.getElem_toArray, List.getElem_cons_zero, List.getElem_cons_succ, List.setIfInBounds_toArray, List.set_cons_zero, List.set_cons_succ]
                        refine wpAnyH_take (i := 19) (v := ?_) rfl (by kernel_rfl) (by kernel_rfl) (by kernel_rfl) (fun _ _ _ h => h) (Or.inl ⟨by rfl, ?yh5_19⟩) (by assumption) ?qh5_19
                        case yh5_19 => (intro wz hSw; (try dsimp only at hSw); go_simp <;> with_reducible rfl)
                        try simp only [Act.put, List.getElem_toArray, List.getElem_cons_zero, List.getElem_cons_succ, List.setIfInBounds_toArray, List.set_cons_zero, List.set_cons_succ]
                        refine wpAnyH_take (i := 20) (v := undef) rfl (by kernel_rfl) (by kernel_rfl) (by kernel_rfl) (fun _ _ _ h => h) (Or.inr ⟨by rfl, rfl⟩) (by assumption) ?_
                        try simp only [Act.put, List.getElem_toArray, List.getElem_cons_zero, List.getElem_cons_succ, List.setIfInBounds_toArray, List.set_cons_zero, List.set_cons_succ]
                        refine wpAnyH_take (i := 21) (v := undef) rfl (by kernel_rfl) (by kernel_rfl) (by kernel_rfl) (fun _ _ _ h => h) (Or.inr ⟨by rfl, rfl⟩) (by assumption) ?_
                        try simp only [Act.put, List.getElem_toArray, List.getElem_cons_zero, List.getElem_cons_succ, List.setIfInBounds_toArray, List.set_cons_zero, List.set_cons_succ]
                        refine wpAnyH_take (i := 22) (v := undef) rfl (by kernel_rfl) (by kernel_rfl) (by kernel_rfl) (fun _ _ _ h => h) (Or.inr ⟨by rfl, rfl⟩) (by assumption) ?_
                        try simp only [Act.put, List.getElem_toArray, List.getElem_cons_zero, List.getElem_cons_succ, List.setIfInBounds_toArray, List.set_cons_zero, List.set_cons_succ]
                        refine wpAnyH_take (i := 23) (v := undef) rfl (by kernel_rfl) (by kernel_rfl) (by kernel_rfl) (fun _ _ _ h => h) (Or.inr ⟨by rfl, rfl⟩) (by assumption) ?_
                        try simp only [Act.put, List.getElem_toArray, List.getElem_cons_zero, List.getElem_cons_succ, List.setIfInBounds_toArray, List.set_cons_zero, List.set_cons_succ]
                        refine wpAnyH_take (i := 24) (v := undef) rfl (by kernel_rfl) (by kernel_rfl) (by kernel_rfl) (fun _ _ _ h => h) (Or.inr ⟨by rfl, rfl⟩) (by assumption) ?_
                        try simp only [Act.put, List.getElem_toArray, List.getElem_cons_zero, List.getElem_cons_succ, List.setIfInBounds_toArray, List.set_cons_zero, List.set_cons_succ]
                        refine wpAnyH_take (i := 25) (v := undef) rfl (by kernel_rfl) (by kernel_rfl) (by kernel_rfl) (fun _ _ _ h => h) (Or.inr ⟨by rfl, rfl⟩) (by assumption) ?_
                        try simp only [Act.put, List.getElem_toArray, List.getElem_cons_zero, List.getElem_cons_succ, List.setIfInBounds_toArray, List.set_cons_zero, List.set_cons_succ]
                        refine wpAnyH_take (i := 26) (v := undef) rfl (by kernel_rfl) (by kernel_rfl) (by kernel_rfl) (fun _ _ _ h => h) (Or.inr ⟨by rfl, rfl⟩) (by assumption) ?_
                        try simp only [Act.put, List.getElem_toArray, List.getElem_cons_zero, List.getElem_cons_succ, List.setIfInBounds_toArray, List.set_cons_zero, List.set_cons_succ]
                        refine wpAnyH_take (i := 27) (v := undef) rfl (by kernel_rfl) (by kernel_rfl) (by kernel_rfl) (fun _ _ _ h => h) (Or.inr ⟨by rfl, rfl⟩) (by assumption) ?_
                        try simp only [Act.put, List.getElem_toArray, List.getElem_cons_zero, List.getElem_cons_succ, List.setIfInBounds_toArray, List.set_cons_zero, List.set_cons_succ]
                        refine wpAnyH_take (i := 28) (v := undef) rfl (by kernel_rfl) (by kernel_rfl) (by kernel_rfl) (fun _ _ _ h => h) (Or.inr ⟨by rfl, rfl⟩) (by assumption) ?_
                        try simp only [Act.put, List.getElem_toArray, List.getElem_cons_zero, List.getElem_cons_succ, List.setIfInBounds_toArray, List.set_cons_zero, List.set_cons_succ]
                        refine wpAnyH_take (i := 29) (v := undef) rfl (by kernel_rfl) (by kernel_rfl) (by kernel_rfl) (fun _ _ _ h => h) (Or.inr ⟨by rfl, rfl⟩) (by assumption) ?_
                        try simp only [Act.put, List.getElem_toArray, List.getElem_cons_zero, List.getElem_cons_succ, List.setIfInBounds_toArray, List.set_cons_zero, List.set_cons_succ]
                        refine wpAnyH_take (i := 30) (v := ?_) rfl (by kernel_rfl) (by kernel_rfl) (by kernel_rfl) (fun _ _ _ h => h) (Or.inl ⟨by rfl, ?yh5_30⟩) (by assumption) ?qh5_30
                        case yh5_30 => (intro wz hSw; (try dsimp only at hSw); go_simp <;> with_reducible rfl)
                        try simp only [Act.put, List.getElem_toArray, List.getElem_cons_zero, List.getElem_cons_succ, List.setIfInBounds_toArray, List.set_cons_zero, List.set_cons_succ]
                        refine wpAnyH_done (by kernel_rfl) ?_ _
                        have HR : Hid (CU w ba bl nl bn nn LA NX bh w5 (1000 * n2 + 200 * k + 2 * (j + 1)) (fun e => ((FT e + sumO NX LA P ti true (tl.take (j + 1)) e : Nat) : Int)) ∧ w5.heap[wA.heap.size]? = some bx) := Lib.hid ⟨HD5.out.1.ext (fun e => HNO.out HRC.out e) (by omega), HD5.out.2.1⟩
                        clear hHeld0 hHeld1 HD5 HNO HYES HRC HRDX HLK HPX HCZ HD
                        go_wp2_with fail
                        go_roundw
                        case rel => exact ⟨j + 1, by go_num, by omega, HR⟩
                        case measure => simp [intOf]; omega
                      | true =>
                        have HRC : Hid (rc = decide (la = xn)) := Lib.hid (by rw [HRC.out]; rfl)
                        refine wpAnyH_take (i := 18) (v := ?_) rfl (by kernel_rfl) (by kernel_rfl) (by kernel_rfl) (fun _ _ _ h => h) (Or.inl ⟨by rfl, ?yh6_18⟩) (by assumption) ?qh6_18
                        case yh6_18 => (intro wz hSw; (try dsimp only at hSw); go_simp <;> with_reducible rfl)
                        try simp only [Act.put, List.getElem_toArray, List.getElem_cons_zero, List.getElem_cons_succ, List.setIfInBounds_toArray, List.set_cons_zero, List.set_cons_succ]
                        refine wpAnyH_take (i := 19) (v := ?_) rfl (by kernel_rfl) (by kernel_rfl) (by kernel_rfl) (fun _ _ _ h => h) (Or.inl ⟨by rfl, ?yh6_19⟩) (by assumption) ?qh6_19
                        case yh6_19 => (intro wz hSw; (try dsimp only at hSw); go_simp <;> with_reducible rfl)
                        try simp only [Act.put, List.getElem_toArray, List.getElem_cons_zero, List.getElem_cons_succ, List.setIfInBounds_toArray, List.set_cons_zero, List.set_cons_succ]
                        refine wpAnyH_take (i := 20) (v := ?_) rfl (by kernel_rfl) (by kernel_rfl) (by kernel_rfl) (fun _ _ _ h => h) (Or.inl ⟨by rfl, ?yh6_20⟩) (by assumption) ?qh6_20
                        case yh6_20 => (intro wz hSw; (try dsimp only at hSw); go_simp <;> with_reducible rfl)
                        try simp only [Act.put, List.getElem_toArray, List.getElem_cons_zero, List.getElem_cons_succ, List.setIfInBounds_toArray, List.set_cons_zero, List.set_cons_succ]
                        refine wpAnyH_take (i := 21) (v := ?_) rfl (by kernel_rfl) (by kernel_rfl) (by kernel_rfl) (fun _ _ _ h => h) (Or.inl ⟨by rfl, ?yh6_21⟩) (by assumption) ?qh6_21
                        case yh6_21 => (intro wz hSw; (try dsimp only at hSw); go_simp <;> with_reducible rfl)
                        try simp only [Act.put, List.getElem_toArray, List.getElem_cons_zero, List.getElem_cons_succ, List.setIfInBounds_toArray, List.set_cons_zero, List.set_cons_succ]
                        refine wpAnyH_take (i := 22) (v := ?_) rfl (by kernel_rfl) (by kernel_rfl) (by kernel_rfl) (fun _ _ _ h => h) (Or.inl ⟨by rfl, ?yh6_22⟩) (by assumption) ?qh6_22
                        case yh6_22 => (intro wz hSw; (try dsimp only at hSw); go_simp <;> with_reducible rfl)
                        try simp only [Act.put, List.getElem_toArray, List.getElem_cons_zero, List.getElem_cons_succ, List.setIfInBounds_toArray, List.set_cons_zero, List.set_cons_succ]
                        refine wpAnyH_take (i := 23) (v := ?_) rfl (by kernel_rfl) (by kernel_rfl) (by kernel_rfl) (fun _ _ _ h => h) (Or.inl ⟨by rfl, ?yh6_23⟩) (by assumption) ?qh6_23
                        case yh6_23 => (intro wz hSw; (try dsimp only at hSw); go_simp <;> with_reducible rfl)
                        try simp only [Act.put, List.getElem_toArray, List.getElem_cons_zero, List.getElem_cons_succ, List.setIfInBounds_toArray, List.set_cons_zero, List.set_cons_succ]
                        refine wpAnyH_take (i := 24) (v := ?_) rfl (by kernel_rfl) (by kernel_rfl) (by kernel_rfl) (fun _ _ _ h => h) (Or.inl ⟨by rfl, ?yh6_24⟩) (by assumption) ?qh6_24
                        case yh6_24 => (intro wz hSw; (try dsimp only at hSw); go_simp <;> with_reducible rfl)
                        try simp only [Act.put, List.getElem_toArray, List.getElem_cons_zero, List.getElem_cons_succ, List.setIfInBounds_toArray, List.set_cons_zero, List.set_cons_succ]
                        refine wpAnyH_take (i := 25) (v := ?_) rfl (by kernel_rfl) (by kernel_rfl) (by kernel_rfl) (fun _ _ _ h => h) (Or.inl ⟨by rfl, ?yh6_25⟩) (by assumption) ?qh6_25
                        case yh6_25 => (intro wz hSw; (try dsimp only at hSw); go_simp <;> with_reducible rfl)
                        try simp only [Act.put, List.getElem_toArray, List.getElem_cons_zero, List.getElem_cons_succ, List.setIfInBounds_toArray, List.set_cons_zero, List.set_cons_succ]
                        refine wpAnyH_take (i := 27) (v := ?_) rfl (by kernel_rfl) (by kernel_rfl) (by kernel_rfl) (fun _ _ _ h => h) (Or.inl ⟨by rfl, ?yh6_27⟩) (by assumption) ?qh6_27
                        case yh6_27 => (intro wz hSw; (try dsimp only at hSw); go_simp <;> with_reducible rfl)
                        try simp only [Act.put, List.getElem_toArray, List.getElem_cons_zero, List.getElem_cons_succ, List.setIfInBounds_toArray, List.set_cons_zero, List.set_cons_succ]
                        refine wpAnyH_take (i := 28) (v := ?_) rfl (by kernel_rfl) (by kernel_rfl) (by kernel_rfl) (fun _ _ _ h => h) (Or.inl ⟨by rfl, ?yh6_28⟩) (by assumption) ?qh6_28
                        case yh6_28 => (intro wz hSw; (try dsimp only at hSw); go_simp <;> with_reducible rfl)
                        try simp only [Act.put, List.getElem_toArray, List.getElem_cons_zero, List.getElem_cons_succ, List.setIfInBounds_toArray, List.set_cons_zero, List.set_cons_succ]
                        refine wpAnyH_ready (rs := [26]) (by kernel_rfl) (by simp) ?_
                        refine AllReadyH.cons rfl (fun K hK => ?_) AllReadyH.nil
                        refine step_lookupG (by rfl) (.tmp 81) (.tmp 86) rfl (b := bl) (key := .agg #[.int .i64 xt, .int .i64 xk]) (by simp [Act.eval]) (by simp [Act.eval]) (HLK.out w5 HD5.out.1.ml) ?_
                        refine hK.out _ _ hHeld1 (fun hHeld2 => ?_)
                        clear hK K
                        try simp only [Act.put, List.getElem_toArray, List.getElem_cons_zero, List.getElem_cons_succ, List.setIfInBounds_toArray, List.set_cons_zero, List.set_cons_succ]
                        by_cases hla : la = xn
                        · have hlab : (la == xn) = true := by simp [hla]
                          have HRC : Hid (rc = true) := Lib.hid (by rw [HRC.out]; simp [hla])
                          clear hla
                          refine wpAnyH_take (i := 29) (v := ?_) rfl (by kernel_rfl) (by kernel_rfl) (by kernel_rfl) (fun _ _ _ h => h) (Or.inl ⟨by rfl, ?yh7_29⟩) (by assumption) ?qh7_29
                          case yh7_29 => (intro wz hSw; (try dsimp only at hSw); go_simp <;> with_reducible rfl)
                          try simp only [Act.put, List.getElem_toArray, List.getElem_cons_zero, List.getElem_cons_succ, List.setIfInBounds_toArray, List.set_cons_zero, List.set_cons_succ]
                          refine wpAnyH_take (i := 30) (v := ?_) rfl (by kernel_rfl) (by kernel_rfl) (by kernel_rfl) (fun _ _ _ h => h) (Or.inl ⟨by rfl, ?yh7_30⟩) (by assumption) ?qh7_30
                          case yh7_30 => (intro wz hSw; (try dsimp only at hSw); go_simp <;> with_reducible rfl)
                          try simp only [Act.put, List.getElem_toArray, List.getElem_cons_zero, List.getElem_cons_succ, List.setIfInBounds_toArray, List.set_cons_zero, List.set_cons_succ]
                          refine wpAnyH_done (by kernel_rfl) ?_ _
                          obtain ⟨⟨k0, k1⟩, k2, k3, k4, k5⟩ := HCZ.out _ HD5.out.2.1 HD5.out.2.2
                          have HRD := Lib.hid (HRDX.out w5 (1000 * n2 + 200 * k + 2 * j) HD5.out.1 (by have := HN2.out; have := HOL2.out; simp only [maxLen]; omega))
                          clear hHeld0 hHeld1 hHeld2 HNO HRDX HLK HPX HD HCZ
                          go_wp2_with fail
                          refine HRD.out.mono ?_
                          rintro e w6 ⟨rfl, n', hn', hme, hg6⟩
                          have HR : Hid (CU w ba bl nl bn nn LA NX bh w6 (1000 * n2 + 200 * k + 2 * (j + 1)) (fun e => ((FT e + sumO NX LA P ti true (tl.take (j + 1)) e : Nat) : Int)) ∧ w6.heap[wA.heap.size]? = some bx) := Lib.hid ⟨(HD5.out.1.turn hg6 hme).ext (fun e => HYES.out HRC.out e) (by omega), (hg6.block _ (heap_lt HD5.out.2.1) (fun e => by injection e with e; have := HBA.out; omega)).trans HD5.out.2.1⟩
                          clear hn' hme hg6 HRD HD5 HYES HRC k0 k1 k2 k3 k4 k5
                          go_wp2_with fail
                          go_roundw
                          case rel => exact ⟨j + 1, by go_num, by omega, HR⟩
                          case measure => simp [intOf]; omega
                        · have hlab : (la == xn) = false := by simp [hla]
                          have HRC : Hid (rc = false) := Lib.hid (by rw [HRC.out]; simp [hla])
                          clear hla
                          refine wpAnyH_take (i := 29) (v := ?_) rfl (by kernel_rfl) (by kernel_rfl) (by kernel_rfl) (fun _ _ _ h => h) (Or.inl ⟨by rfl, ?yh8_29⟩) (by assumption) ?qh8_29
                          case yh8_29 => (intro wz hSw; (try dsimp only at hSw); go_simp <;> with_reducible rfl)
                          try simp only [Act.put, List.getElem_toArray, List.getElem_cons_zero, List.getElem_cons_succ, List.setIfInBounds_toArray, List.set_cons_zero, List.set_cons_succ]
                          refine wpAnyH_take (i := 30) (v := ?_) rfl (by kernel_rfl) (by kernel_rfl) (by kernel_rfl) (fun _ _ _ h => h) (Or.inl ⟨by rfl, ?yh8_30⟩) (by assumption) ?qh8_30
                          case yh8_30 => (intro wz hSw; (try dsimp only at hSw); go_simp <;> with_reducible rfl)
                          try simp only [Act.put, List.getElem_toArray, List.getElem_cons_zero, List.getElem_cons_succ, List.setIfInBounds_toArray, List.set_cons_zero, List.set_cons_succ]
                          refine wpAnyH_done (by kernel_rfl) ?_ _
                          have HR : Hid (CU w ba bl nl bn nn LA NX bh w5 (1000 * n2 + 200 * k + 2 * (j + 1)) (fun e => ((FT e + sumO NX LA P ti true (tl.take (j + 1)) e : Nat) : Int)) ∧ w5.heap[wA.heap.size]? = some bx) := Lib.hid ⟨HD5.out.1.ext (fun e => HNO.out HRC.out e) (by omega), HD5.out.2.1⟩
                          clear hHeld0 hHeld1 hHeld2 HD5 HNO HYES HRC HRDX HLK HPX HCZ HD
                          go_wp2_with fail
                          go_roundw
                          case rel => exact ⟨j + 1, by go_num, by omega, HR⟩
                          case measure => simp [intOf]; omega
              · have hje : j = tn := by omega
                have HR : Hid (CU w ba bl nl bn nn LA NX bh wr (1000 * n2 + 200 * (k + 1)) (fun e => ((WW e + sumT NX LA P (h.txs.take (k + 1)) e : Nat) : Int))) := Lib.hid (HS.out.1.ext (fun e => by rw [HTK.out, hje, HTN.out, List.take_length, HFT.out]; simp only; omega) (by omega))
                clear HS hje
                go_wp2_with fail
                go_roundw
                case rel => exact ⟨k + 1, by go_num, by omega, HR⟩
                case measure => simp [intOf]; omega
          · have hke : k = n1 := by omega
            have HFIN : Hid (Post (.returned (.map (some ba))) wA) := Lib.hid (HE.out _ _ wA (by have := HN1.out; have := HN2.out; omega) (HS.out.me.ext fun e => by rw [HCN2.out, hke, HN1.out, List.take_length]) HS.out.aft)
            clear HS hke
            go_wp2_with fail
            exact HFIN.out
      · intro fr ky cv kl w1 cnt1 hkl hlx hfx hwc hmr1 hlt hg1 hs1 hen
        have HST := Lib.hid (HS.out.step hg1 hmr1 hlt (fun e => rfl))
        have HLE : Hid (m1 + 1 + cnt1 ≤ 1000 * n2) := Lib.hid (by have := HS.out.2.2.1; omega)
        have HLT : Hid (cnt1 < wr.rangeLeft bn r) := Lib.hid (by rw [HMR.out.left_eq]; exact hlt)
        obtain ⟨hof, hokk, hoc⟩ := HOK.out _ _ hfx
        have HOE : Hid (Edg.ok ⟨fr, cv, 1, ky⟩) := Lib.hid ⟨hof, hoc, by unfold i64; simp, hokk⟩
        have HFX := Lib.hid hfx
        have HLX := Lib.hid hlx
        unfold gH at hen
        obtain ⟨X1, hX1⟩ : ∃ X1, X1 = w1.alloc (.cells #[.int .i64 fr, .int .i64 ky] 70) := ⟨_, rfl⟩
        have HX1 : Hid (CT w ba bl nl bn r nn (1000 * n2) LA NX bh X1 (fun z => left z && !decide (z = (fr, ky))) cnt1 m1 (fun e => ((wwF NX left e : Nat) : Int)) ∧ X1.heap[w1.heap.size]? = some (.cells #[.int .i64 fr, .int .i64 ky] 70)) := Lib.hid ⟨by rw [hX1]; exact HST.out.lay _, by rw [hX1]; exact heap_alloc_at _ _ _ rfl⟩
        have HRB : Hid (ba < w1.heap.size) := Lib.hid HST.out.1.me.lt
        have HCX : Hid (∀ Z : World, Z.heap[w1.heap.size]? = some (.cells #[.int .i64 fr, .int .i64 ky] 70) → Z.cell? ⟨w1.heap.size, 0, none⟩ = some (.int .i64 fr) ∧ Z.cell? ⟨w1.heap.size, 1, none⟩ = some (.int .i64 ky)) := Lib.hid fun Z hZ => by simp [World.cell?, hZ]
        obtain ⟨k0, k1⟩ := HCX.out X1 HX1.out.2
        have hxl := heap_lt HX1.out.2
        clear hkl hlx hfx hwc hmr1 hlt hg1 hs1 hof hokk hoc HST HS HMR
        by_cases h0 : fr = 0
        · have HR : Hid (CT w ba bl nl bn r nn (1000 * n2) LA NX bh X1 (fun z => left z && !decide (z = (fr, ky))) cnt1 m1 (fun e => ((wwF NX (fun z => left z && !decide (z = (fr, ky))) e : Nat) : Int))) := Lib.hid ⟨HX1.out.1.1.ext (fun e => by rw [ww_skip h0]) (Nat.le_refl _), HX1.out.1.2⟩
          have h0b : (fr != 0) = false := by simp [h0]
          clear HX1 HCX h0
          go_upto_region 8 with fail
          rw [← hX1]
          clear hX1 hen
          go_wp2_with fail
          go_roundw
          case rel => exact ⟨_, cnt1, m1, HR⟩
          case measure => rw [HR.out.2.1.left_eq]; exact HLT.out
        · have h0b : (fr != 0) = true := by simp [h0]
          have HWB := Lib.hid (ww_bump HFX.out HLX.out h0)
          clear h0 HFX HLX
          go_upto_region 8 with fail
          rw [← hX1]
          clear hX1 hen
          go_upto_region 10 with fail
          clear k0 k1 hxl
          obtain ⟨XD, hXD⟩ : ∃ W, W = X1.drew := ⟨_, rfl⟩
          have HD : Hid (CT w ba bl nl bn r nn (1000 * n2) LA NX bh XD (fun z => left z && !decide (z = (fr, ky))) cnt1 m1 (fun e => ((wwF NX left e : Nat) : Int)) ∧ XD.heap[w1.heap.size]? = some (.cells #[.int .i64 fr, .int .i64 ky] 70)) := Lib.hid (by rw [hXD]; exact ⟨HX1.out.1.drew, HX1.out.2⟩)
          have HBX : Hid (BumpE XD ba m1 (fun e => ((wwF NX (fun z => left z && !decide (z = (fr, ky))) e : Nat) : Int)) ⟨fr, cv, 1, ky⟩ 0) := Lib.hid (by
            have := me_bump (F1 := fun e => ((wwF NX (fun z => left z && !decide (z = (fr, ky))) e : Nat) : Int)) HD.out.1.1.me (by have := HLE.out; have := HOL2.out; have := HN2.out; simp only [maxLen]; omega) HOE.out (by rw [HWB.out.1]; omega) (by rw [HWB.out.2.1, HWB.out.1]; rfl) (fun e he => by rw [HWB.out.2.2 e he])
            rw [HWB.out.1] at this
            exact this)
          have HCK : Hid (∀ Z, XD.grownBy Z (some ba) → Z.cell? ⟨w1.heap.size, 0, none⟩ = some (.int .i64 fr) ∧ Z.cell? ⟨w1.heap.size, 1, none⟩ = some (.int .i64 ky)) := Lib.hid fun Z hZ => HCX.out Z ((hZ.block _ (heap_lt HD.out.2) (fun e => by injection e with e; have := HRB.out; omega)).trans HD.out.2)
          have H0 := Lib.hid (HCX.out XD HD.out.2)
          have hw : IntKind.i64.wrap 1 = 1 := by rw [IntKind.wrap_i64] <;> omega
          clear HX1
          refine wp_region_held_drew (S := fun Z => Z.cell? ⟨w1.heap.size, 0, none⟩ = some (.int .i64 fr) ∧ Z.cell? ⟨w1.heap.size, 1, none⟩ = some (.int .i64 ky)) (by kernel_rfl) (hXD ▸ H0.out) (fun hHeld0 => ?_)
          rw [← hXD] at hHeld0 ⊢
          clear hXD H0
          refine wpAnyH_take (i := 0) (v := ?_) rfl (by kernel_rfl) (by kernel_rfl) (by kernel_rfl) (fun _ _ _ h => h) (Or.inl ⟨by rfl, ?yg0⟩) (by assumption) ?qg0
          case yg0 => (intro wz hSw; (try dsimp only at hSw); go_simp <;> with_reducible rfl)
          try simp only [Act.put, List.getElem_toArray, List.getElem_cons_zero, List.setIfInBounds_toArray, List.set_cons_zero, List.set_cons_succ]
          refine wpAnyH_take (i := 1) (v := ?_) rfl (by kernel_rfl) (by kernel_rfl) (by kernel_rfl) (fun _ _ _ h => h) (Or.inl ⟨by rfl, ?yg1⟩) (by assumption) ?qg1
          case yg1 => (intro wz hSw; (try dsimp only at hSw); go_simp <;> with_reducible rfl)
          try simp only [Act.put, List.getElem_toArray, List.getElem_cons_zero, List.getElem_cons_succ, List.setIfInBounds_toArray, List.set_cons_zero, List.set_cons_succ]
          refine wpAnyH_take (i := 2) (v := ?_) rfl (by kernel_rfl) (by kernel_rfl) (by kernel_rfl) (fun _ _ _ h => h) (Or.inl ⟨by rfl, ?yg2⟩) (by assumption) ?qg2
          case yg2 => (intro wz hSw; (try dsimp only at hSw); go_simp <;> with_reducible rfl)
          try simp only [Act.put, List.getElem_toArray, List.getElem_cons_zero, List.getElem_cons_succ, List.setIfInBounds_toArray, List.set_cons_zero, List.set_cons_succ]
          refine wpAnyH_take (i := 3) (v := ?_) rfl (by kernel_rfl) (by kernel_rfl) (by kernel_rfl) (fun _ _ _ h => h) (Or.inl ⟨by rfl, ?yg3⟩) (by assumption) ?qg3
          case yg3 => (intro wz hSw; (try dsimp only at hSw); go_simp <;> with_reducible rfl)
          try simp only [Act.put, List.getElem_toArray, List.getElem_cons_zero, List.getElem_cons_succ, List.setIfInBounds_toArray, List.set_cons_zero, List.set_cons_succ]
          refine wpAnyH_take (i := 4) (v := ?_) rfl (by kernel_rfl) (by kernel_rfl) (by kernel_rfl) (fun _ _ _ h => h) (Or.inl ⟨by rfl, ?yg4⟩) (by assumption) ?qg4
          case yg4 => (intro wz hSw; (try dsimp only at hSw); go_simp <;> with_reducible rfl)
          try simp only [Act.put, List.getElem_toArray, List.getElem_cons_zero, List.getElem_cons_succ, List.setIfInBounds_toArray, List.set_cons_zero, List.set_cons_succ]
          refine wpAnyH_take (i := 5) (v := ?_) rfl (by kernel_rfl) (by kernel_rfl) (by kernel_rfl) (fun _ _ _ h => h) (Or.inl ⟨by rfl, ?yg5⟩) (by assumption) ?qg5
          case yg5 => (intro wz hSw; (try dsimp only at hSw); go_simp <;> with_reducible rfl)
          try simp only [Act.put, List.getElem_toArray, List.getElem_cons_zero, List.getElem_cons_succ, List.setIfInBounds_toArray, List.set_cons_zero, List.set_cons_succ]
          obtain ⟨q0, st, w1, r1, r3, r2, w3, r4, r5, r6⟩ := HBX.out
          have HS0 := Lib.hid q0
          have HS1 := Lib.hid r2
          have HR1 := Lib.hid r1
          have HR4 := Lib.hid r4
          have HC1 := Lib.hid (HCK.out w1 r3)
          have HC3 := Lib.hid (HCK.out w3 (World.grownBy.trans r3 r6))
          have HMF := Lib.hid r5
          have HG := Lib.hid (World.grownBy.trans r3 r6)
          clear q0 r1 r2 r3 r4 r5 r6 HBX HCK
          refine wpAnyH_ready (rs := [6, 8]) (by kernel_rfl) (by simp) ?_
          refine AllReadyH.cons rfl (fun K hK => ?ordgA) ?restgA
          case ordgA =>
            refine step_lookup rfl (.tmp 37) (.tmp 42) rfl (b := ba) (key := .agg #[.int .i64 fr, .int .i64 cv, .int .i64 1, .int .i64 ky]) (by simp [Act.eval]) (by simp [Act.eval]) HS0.out ?_
            refine hK.out _ _ hHeld0 (fun hHeldL => ?_)
            clear hK K
            try simp only [Act.put, List.getElem_toArray, List.getElem_cons_zero, List.getElem_cons_succ, List.setIfInBounds_toArray, List.set_cons_zero, List.set_cons_succ]
            refine wpAnyH_take (i := 7) (v := ?_) rfl (by kernel_rfl) (by kernel_rfl) (by kernel_rfl) (fun _ _ _ h => h) (Or.inl ⟨by rfl, ?yga7⟩) (by assumption) ?qga7
            case yga7 => (intro wz hSw; (try dsimp only at hSw); go_simp <;> with_reducible rfl)
            try simp only [Act.put, List.getElem_toArray, List.getElem_cons_zero, List.getElem_cons_succ, List.setIfInBounds_toArray, List.set_cons_zero, List.set_cons_succ]
            clear hHeldL
            refine wpAnyH_ready (rs := [8]) (by kernel_rfl) (by simp) ?_
            refine AllReadyH.cons rfl (fun K hK => ?_) AllReadyH.nil
            refine Mp.step_entry rfl (.tmp 37) (.tmp 42) rfl (b := ba) (key := .agg #[.int .i64 fr, .int .i64 cv, .int .i64 1, .int .i64 ky]) (by simp [Act.eval]) (by simp [Act.eval]) HR1.out ?_
            refine hK.out _ _ HC1.out (fun hHeldE => ?_)
            clear hK K
            try simp only [Act.put, List.getElem_toArray, List.getElem_cons_zero, List.getElem_cons_succ, List.setIfInBounds_toArray, List.set_cons_zero, List.set_cons_succ]
            refine wpAnyH_take (i := 9) (v := ?_) rfl (by kernel_rfl) (by kernel_rfl) (by kernel_rfl) (fun _ _ _ h => h) (Or.inl ⟨by rfl, ?ygc9⟩) (by assumption) ?qgc9
            case ygc9 => (intro wz hSw; (try dsimp only at hSw); go_simp <;> with_reducible rfl)
            try simp only [Act.put, List.getElem_toArray, List.getElem_cons_zero, List.getElem_cons_succ, List.setIfInBounds_toArray, List.set_cons_zero, List.set_cons_succ]
            refine wpAnyH_ready (rs := [10]) (by kernel_rfl) (by simp) ?_
            refine AllReadyH.cons rfl (fun K hK => ?_) AllReadyH.nil
            refine Mp.step_entryStore rfl (.tmp 37) (.tmp 46) (.tmp 44) rfl (b := ba) (st := goInt st) (val := .int .i64 ((0 : Int) + 1)) (by simp [Act.eval]) (by simp [Act.eval, goInt]) (by simp [Act.eval]) HR4.out ?_
            refine hK.out _ _ HC3.out (fun hHeldS => ?_)
            clear hK K
            try simp only [Act.put, List.getElem_toArray, List.getElem_cons_zero, List.getElem_cons_succ]
            refine wpAnyH_done (by kernel_rfl) ?_ _
            clear hHeld0 hHeldE hHeldS HC1 HC3 HS0 HS1 HR1 HR4
            have HR := Lib.hid (HD.out.1.turn HG.out HMF.out HLE.out)
            clear HMF HG HD HLE HWB HOE
            go_wp2_with fail
            go_roundw
            case rel => exact ⟨_, cnt1, m1 + 1, HR⟩
            case measure => rw [HR.out.2.1.left_eq]; exact HLT.out
          refine AllReadyH.cons rfl (fun K hK => ?ordgB) AllReadyH.nil
          case ordgB =>
            refine Mp.step_entry rfl (.tmp 37) (.tmp 42) rfl (b := ba) (key := .agg #[.int .i64 fr, .int .i64 cv, .int .i64 1, .int .i64 ky]) (by simp [Act.eval]) (by simp [Act.eval]) HR1.out ?_
            refine hK.out _ _ HC1.out (fun hHeldE => ?_)
            clear hK K
            try simp only [Act.put, List.getElem_toArray, List.getElem_cons_zero, List.getElem_cons_succ, List.setIfInBounds_toArray, List.set_cons_zero, List.set_cons_succ]
            refine wpAnyH_take (i := 9) (v := ?_) rfl (by kernel_rfl) (by kernel_rfl) (by kernel_rfl) (fun _ _ _ h => h) (Or.inl ⟨by rfl, ?ygd9⟩) (by assumption) ?qgd9
            case ygd9 => (intro wz hSw; (try dsimp only at hSw); go_simp <;> with_reducible rfl)
            try simp only [Act.put, List.getElem_toArray, List.getElem_cons_zero, List.getElem_cons_succ, List.setIfInBounds_toArray, List.set_cons_zero, List.set_cons_succ]
            refine wpAnyH_ready (rs := [6]) (by kernel_rfl) (by simp) ?_
            refine AllReadyH.cons rfl (fun K hK => ?_) AllReadyH.nil
            refine step_lookup rfl (.tmp 37) (.tmp 42) rfl (b := ba) (key := .agg #[.int .i64 fr, .int .i64 cv, .int .i64 1, .int .i64 ky]) (by simp [Act.eval]) (by simp [Act.eval]) HS1.out ?_
            refine hK.out _ _ hHeldE (fun hHeldL => ?_)
            clear hK K
            try simp only [Act.put, List.getElem_toArray, List.getElem_cons_zero, List.getElem_cons_succ, List.setIfInBounds_toArray, List.set_cons_zero, List.set_cons_succ]
            refine wpAnyH_take (i := 7) (v := ?_) rfl (by kernel_rfl) (by kernel_rfl) (by kernel_rfl) (fun _ _ _ h => h) (Or.inl ⟨by rfl, ?ygb7⟩) (by assumption) ?qgb7
            case ygb7 => (intro wz hSw; (try dsimp only at hSw); go_simp <;> with_reducible rfl)
            try simp only [Act.put, List.getElem_toArray, List.getElem_cons_zero, List.getElem_cons_succ, List.setIfInBounds_toArray, List.set_cons_zero, List.set_cons_succ]
            clear hHeldL
            refine wpAnyH_ready (rs := [10]) (by kernel_rfl) (by simp) ?_
            refine AllReadyH.cons rfl (fun K hK => ?_) AllReadyH.nil
            refine Mp.step_entryStore rfl (.tmp 37) (.tmp 46) (.tmp 44) rfl (b := ba) (st := goInt st) (val := .int .i64 ((0 : Int) + 1)) (by simp [Act.eval]) (by simp [Act.eval, goInt]) (by simp [Act.eval]) HR4.out ?_
            refine hK.out _ _ HC3.out (fun hHeldS => ?_)
            clear hK K
            try simp only [Act.put, List.getElem_toArray, List.getElem_cons_zero, List.getElem_cons_succ]
            refine wpAnyH_done (by kernel_rfl) ?_ _
            clear hHeld0 hHeldE hHeldS HC1 HC3 HS0 HS1 HR1 HR4
            have HR := Lib.hid (HD.out.1.turn HG.out HMF.out HLE.out)
            clear HMF HG HD HLE HWB HOE
            go_wp2_with fail
            go_roundw
            case rel => exact ⟨_, cnt1, m1 + 1, HR⟩
            case measure => rw [HR.out.2.1.left_eq]; exact HLT.out
end Go.Proofs.Ytmgkpabagpgilaa.Dg
namespace Go.Proofs.Ytmgkpabagpgilaa.Dg
open Go.ChangeShapes Go.WideShapes Go.ChangeAt Go.RowKit Base F Tx Hi Off
end Go.Proofs.Ytmgkpabagpgilaa.Dg
