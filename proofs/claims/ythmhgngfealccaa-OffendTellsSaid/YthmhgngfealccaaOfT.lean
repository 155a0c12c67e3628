/-
  OffendTells: the walk. Not a statement of the seat.
-/
import Derived.Test.YthmhgngfealccaaOfLives
import Derived.Test.YthmhgngfealccaaHead11
namespace Go.Proofs.Ythmhgngfealccaa.Off
open Go.ChangeShapes Go.WideShapes Go.ChangeAt Go.RowKit Base F Tx Hi
theorem light_sm {h : Hist} (ht : ∀ t ∈ h.txs, Txn.ok t) (ho : ∀ o ∈ h.ords, Ordr.ok o) (hl : lightB h = true) : HistSm h := by
  obtain ⟨h1, h2, h3, h4⟩ := (lightB_iff h).1 hl
  exact ⟨ht, ho, by omega, fun t hm => by have := h3 t hm; omega, fun o hm => by have := h4 o hm; omega⟩
theorem bads_len {h : Hist} (hs : HistSm h) (ph : Int) : (badsOf h ph).length ≤ 200000 := by
  have h1 := badsH_len h ph h.txs hs.ops
  have h2 := hs.num
  unfold badsOf
  split
  · omega
  · simp
set_option maxRecDepth 100000 in
set_option maxHeartbeats 16000000 in
theorem walk {v u : Value} {h : Hist} (w : World) (hh : HistV w v u h) (ht : ∀ t ∈ h.txs, Txn.ok t) (ho : ∀ o ∈ h.ords, Ordr.ok o) (ph key : Int) (a b : Bad) :
    Calls Try.prog 3 #[.agg #[v, u], .int .i64 ph, .int .i64 key, .agg #[.int .i64 a.tx, .int .i64 a.pl, .int .i64 a.t, .int .i64 a.k, .int .i64 a.n], .agg #[.int .i64 b.tx, .int .i64 b.pl, .int .i64 b.t, .int .i64 b.k, .int .i64 b.n]] w (LivesP w) := by
  obtain ⟨p, c, hv, _⟩ := hh.1.form
  obtain ⟨q, d, hu, _⟩ := hh.2.form
  subst hv hu
  have HSM := Lib.hid (fun e : lightB h = true => light_sm ht ho e)
  have HH := Lib.hid hh
  obtain ⟨n1, hn1⟩ : ∃ n, n = h.txs.length := ⟨_, rfl⟩
  obtain ⟨n2, hn2⟩ : ∃ n, n = h.ords.length := ⟨_, rfl⟩
  rw [← hn1, ← hn2] at HH
  rw [← hn1, ← hn2]
  clear hh ht ho hn1 hn2
  obtain ⟨X0, hX0⟩ : ∃ X0, X0 = (((w.alloc (.cells #[.slice p n1 c, .slice q n2 d] 25)).alloc (.cells #[.int .i64 a.tx, .int .i64 a.pl, .int .i64 a.t, .int .i64 a.k, .int .i64 a.n] 29)).alloc (.cells #[.int .i64 b.tx, .int .i64 b.pl, .int .i64 b.t, .int .i64 b.k, .int .i64 b.n] 29)) := ⟨_, rfl⟩
  have HA0 : Hid (Aft w X0) := Lib.hid (by rw [hX0]; exact ((Aft.one _).lay _).lay _)
  have HC : Hid (∀ X, Aft X0 X → (X.cell? ⟨w.heap.size, 0, none⟩ = some (.slice p n1 c) ∧ X.cell? ⟨w.heap.size, 1, none⟩ = some (.slice q n2 d)) ∧ (X.cell? ⟨w.heap.size + 1, 0, none⟩ = some (.int .i64 a.tx) ∧ X.cell? ⟨w.heap.size + 1, 1, none⟩ = some (.int .i64 a.pl) ∧ X.cell? ⟨w.heap.size + 1, 2, none⟩ = some (.int .i64 a.t) ∧ X.cell? ⟨w.heap.size + 1, 3, none⟩ = some (.int .i64 a.k) ∧ X.cell? ⟨w.heap.size + 1, 4, none⟩ = some (.int .i64 a.n)) ∧ (X.cell? ⟨w.heap.size + 1 + 1, 0, none⟩ = some (.int .i64 b.tx) ∧ X.cell? ⟨w.heap.size + 1 + 1, 1, none⟩ = some (.int .i64 b.pl) ∧ X.cell? ⟨w.heap.size + 1 + 1, 2, none⟩ = some (.int .i64 b.t) ∧ X.cell? ⟨w.heap.size + 1 + 1, 3, none⟩ = some (.int .i64 b.k) ∧ X.cell? ⟨w.heap.size + 1 + 1, 4, none⟩ = some (.int .i64 b.n))) := Lib.hid (by
    have e0 : X0.heap[w.heap.size]? = some (.cells #[.slice p n1 c, .slice q n2 d] 25) := by rw [hX0]; exact heap_alloc_lt _ _ _ _ (heap_alloc_lt _ _ _ _ (heap_alloc_at _ _ _ rfl))
    have e1 : X0.heap[w.heap.size + 1]? = some (.cells #[.int .i64 a.tx, .int .i64 a.pl, .int .i64 a.t, .int .i64 a.k, .int .i64 a.n] 29) := by rw [hX0]; exact heap_alloc_lt _ _ _ _ (heap_alloc_at _ _ _ (by simp))
    have e2 : X0.heap[w.heap.size + 1 + 1]? = some (.cells #[.int .i64 b.tx, .int .i64 b.pl, .int .i64 b.t, .int .i64 b.k, .int .i64 b.n] 29) := by rw [hX0]; exact heap_alloc_at _ _ _ (by simp)
    clear hX0
    intro X hX
    have k0 := (hX.block _ (heap_lt e0)).trans e0
    have k1 := (hX.block _ (heap_lt e1)).trans e1
    have k2 := (hX.block _ (heap_lt e2)).trans e2
    refine ⟨?_, ?_, ?_⟩
    · simp [World.cell?, k0]
    · simp [World.cell?, k1]
    · simp [World.cell?, k2])
  have HL := Lib.hid (rlight_any X0 (HH.out.below HA0.out))
  have HE : Hid (∀ W, Aft X0 W → LivesP w (.returned (.bool true)) W) := Lib.hid fun W hW => ⟨rfl, HA0.out.trans hW⟩
  generalize LivesP w = Post at HE ⊢
  obtain ⟨c0, c1⟩ := (HC.out _ (Aft.refl _)).1
  generalize lightB h = lb at HL HSM
  cases lb with
  | false =>
    clear HSM HH HC HA0
    go_enter Try.func3, Try.ntmps3
    go_wp2_with fail
    rw [← hX0]
    clear hX0
    go_wp2_with fail
    refine HL.out.mono ?_
    rintro e w2 ⟨rfl, hb⟩
    have B1 := Lib.hid hb
    clear hb HL c0 c1
    go_wp2_with fail
    refine (lives _).mono ?_
    rintro e w3 ⟨rfl, hb⟩
    have B2 := Lib.hid (B1.out.trans hb)
    clear hb B1
    go_wp2_with fail
    exact HE.out _ B2.out
  | true =>
    have HS := Lib.hid (HSM.out rfl)
    have HV : Hid (∀ W, Aft X0 W → HistV W (.slice p n1 c) (.slice q n2 d) h) := Lib.hid fun W hW => HH.out.below (HA0.out.trans hW)
    have HR : Hid (∀ W, Aft X0 W → Calls Try.prog 6 #[.agg #[.slice p n1 c, .slice q n2 d], .int .i64 ph] W (BadsP (badsOf h ph) W)) := Lib.hid fun W hW => rOf_any W (HV.out W hW) HS.out ph
    have HOf : Hid (∀ W, Aft X0 W → Calls Try.prog 8 #[.agg #[.slice p n1 c, .slice q n2 d], .int .i64 ph] W (BadsP (badsOf h ph) W)) := Lib.hid fun W hW => Of_any W (HV.out W hW) HS.out ph
    have HOk : Hid (∀ W, Aft X0 W → Calls Try.prog 9 #[.agg #[.slice p n1 c, .slice q n2 d], .int .i64 ph, .int .i64 key] W (BadsP ((badsOf h ph).filter fun b => b.k == key) W)) := Lib.hid fun W hW => OfKey_any W (HV.out W hW) HS.out ph key
    have HRk : Hid (∀ W v1, Bads 0 W v1 (badsOf h ph) → Calls Try.prog 10 #[v1, .int .i64 key] W (BadsP ((badsOf h ph).filter fun b => b.k == key) W)) := Lib.hid fun W v1 hv => rOfKey_any key W hv (bads_len HS.out ph)
    have HIs : Hid (∀ W, Aft X0 W → Calls Try.prog 11 #[.agg #[.slice p n1 c, .slice q n2 d], .int .i64 ph, .agg #[.int .i64 b.tx, .int .i64 b.pl, .int .i64 b.t, .int .i64 b.k, .int .i64 b.n]] W (BoolNew (inB (badsOf h ph) b) W)) := Lib.hid fun W hW => Is_any W (HV.out W hW) HS.out ph b
    have HIn : Hid (∀ W v1, Bads 0 W v1 (badsOf h ph) → Calls Try.prog 12 #[v1, .agg #[.int .i64 b.tx, .int .i64 b.pl, .int .i64 b.t, .int .i64 b.k, .int .i64 b.n]] W (BoolNew (inB (badsOf h ph) b) W)) := Lib.hid fun W v1 hv => rIn_any b W hv
    have HLe : Hid (∀ W, Calls Try.prog 13 #[.agg #[.int .i64 a.tx, .int .i64 a.pl, .int .i64 a.t, .int .i64 a.k, .int .i64 a.n], .agg #[.int .i64 b.tx, .int .i64 b.pl, .int .i64 b.t, .int .i64 b.k, .int .i64 b.n]] W (BoolNew (lessB a b) W)) := Lib.hid fun W => Less_any a b W
    have HRl : Hid (∀ W, Calls Try.prog 14 #[.agg #[.int .i64 a.tx, .int .i64 a.pl, .int .i64 a.t, .int .i64 a.k, .int .i64 a.n], .agg #[.int .i64 b.tx, .int .i64 b.pl, .int .i64 b.t, .int .i64 b.k, .int .i64 b.n]] W (BoolNew (lessB a b) W)) := Lib.hid fun W => rLess_any a b W
    have HSa : Hid (∀ W v1 v2 l, Bads 0 W v1 l → Bads 0 W v2 l → Calls Try.prog 7 #[v1, v2] W (BoolNew true W)) := Lib.hid fun W v1 v2 l h1 h2 => by have := rSame_any W h1 h2; rwa [sameBs_self] at this
    clear HSM HH HA0 HV HS
    generalize ((badsOf h ph).filter fun b => b.k == key) = lk at HOk HRk
    generalize inB (badsOf h ph) b = rb at HIs HIn
    generalize lessB a b = sb at HLe HRl
    generalize badsOf h ph = l at HR HOf HRk HIn
    go_enter Try.func3, Try.ntmps3
    go_wp2_with fail
    rw [← hX0]
    clear hX0
    go_wp2_with fail
    refine HL.out.mono ?_
    rintro e w2 ⟨rfl, hb⟩
    have B1 := Lib.hid hb
    clear hb HL c0 c1
    obtain ⟨c0, c1⟩ := (HC.out _ B1.out).1
    go_wp2_with fail
    refine (HR.out _ B1.out).mono ?_
    rintro e w3 ⟨vl, rfl, hx, _, hb⟩
    have B2 := Lib.hid (B1.out.trans hb)
    have FL0 := Lib.hid hx
    clear hb hx B1 HR c0 c1
    go_upto_region 4 with fail
    obtain ⟨W0, hW0⟩ : ∃ W, W = w3.drew := ⟨_, rfl⟩
    have B0a : Hid (Aft w3 W0) := Lib.hid (by rw [hW0]; exact (Aft.refl _).drew 1)
    have B0 := Lib.hid (B2.out.trans B0a.out)
    refine wp_region_held_drew (S := (fun X => (X.cell? ⟨w.heap.size, 0, none⟩ = some (.slice p n1 c) ∧ X.cell? ⟨w.heap.size, 1, none⟩ = some (.slice q n2 d)) ∧ (X.cell? ⟨w.heap.size + 1, 0, none⟩ = some (.int .i64 a.tx) ∧ X.cell? ⟨w.heap.size + 1, 1, none⟩ = some (.int .i64 a.pl) ∧ X.cell? ⟨w.heap.size + 1, 2, none⟩ = some (.int .i64 a.t) ∧ X.cell? ⟨w.heap.size + 1, 3, none⟩ = some (.int .i64 a.k) ∧ X.cell? ⟨w.heap.size + 1, 4, none⟩ = some (.int .i64 a.n)) ∧ (X.cell? ⟨w.heap.size + 1 + 1, 0, none⟩ = some (.int .i64 b.tx) ∧ X.cell? ⟨w.heap.size + 1 + 1, 1, none⟩ = some (.int .i64 b.pl) ∧ X.cell? ⟨w.heap.size + 1 + 1, 2, none⟩ = some (.int .i64 b.t) ∧ X.cell? ⟨w.heap.size + 1 + 1, 3, none⟩ = some (.int .i64 b.k) ∧ X.cell? ⟨w.heap.size + 1 + 1, 4, none⟩ = some (.int .i64 b.n)))) (by kernel_rfl) (HC.out _ (hW0 ▸ B0.out)) (fun hHeld0 => ?_)
    rw [← hW0] at hHeld0 ⊢
    have FL : Hid (∀ W, Aft W0 W → Bads 0 W vl l) := Lib.hid fun W hW => FL0.out.below (B0a.out.trans hW)
    clear hW0 FL0 B0a B2
    refine wpAnyH_take (i := 0) (v := ?_) rfl (by as_aux_lemma => kernel_rfl) (by as_aux_lemma => kernel_rfl) (by as_aux_lemma => kernel_rfl) (fun _ _ _ h => h) (Or.inl ⟨by as_aux_lemma => rfl, ?yt0⟩) (by assumption) ?qt0
    case yt0 => (intro wz hSw; (try dsimp only at hSw); go_simp <;> with_reducible rfl)
    try simp only [Act.put, List.getElem_toArray, List.getElem_cons_zero, List.setIfInBounds_toArray, List.set_cons_zero, List.set_cons_succ]
    refine wpAnyH_take (i := 1) (v := ?_) rfl (by as_aux_lemma => kernel_rfl) (by as_aux_lemma => kernel_rfl) (by as_aux_lemma => kernel_rfl) (fun _ _ _ h => h) (Or.inl ⟨by as_aux_lemma => rfl, ?yt1⟩) (by assumption) ?qt1
    case yt1 => (intro wz hSw; (try dsimp only at hSw); go_simp <;> with_reducible rfl)
    try simp only [Act.put, List.getElem_toArray, List.getElem_cons_zero, List.getElem_cons_succ, List.setIfInBounds_toArray, List.set_cons_zero, List.set_cons_succ]
    refine wpAnyH_take (i := 3) (v := ?_) rfl (by as_aux_lemma => kernel_rfl) (by as_aux_lemma => kernel_rfl) (by as_aux_lemma => kernel_rfl) (fun _ _ _ h => h) (Or.inl ⟨by as_aux_lemma => rfl, ?yt3⟩) (by assumption) ?qt3
    case yt3 => (intro wz hSw; (try dsimp only at hSw); go_simp <;> with_reducible rfl)
    try simp only [Act.put, List.getElem_toArray, List.getElem_cons_zero, List.getElem_cons_succ, List.setIfInBounds_toArray, List.set_cons_zero, List.set_cons_succ]
    refine wpAnyH_ready (rs := [2]) (by as_aux_lemma => kernel_rfl) (by simp) ?_
    refine AllReadyH.cons rfl (fun K hK => ?_) AllReadyH.nil
    go_simp
    refine (HOf.out _ B0.out).mono ?_
    rintro e u1 ⟨x1, rfl, hx, _, hb⟩
    have F2 := Lib.hid hx
    have hb2 := Lib.hid hb
    have B1 := Lib.hid (Aft.trans B0.out hb)
    have C1 := Lib.hid (Aft.trans (Aft.refl W0) hb)
    clear hb hx
    refine hK.out _ _ (HC.out _ B1.out) (fun hHeld1 => ?_)
    clear hK K
    try simp only [Act.put, List.getElem_toArray, List.getElem_cons_zero, List.getElem_cons_succ, List.setIfInBounds_toArray, List.set_cons_zero, List.set_cons_succ]
    refine wpAnyH_ready (rs := [4]) (by as_aux_lemma => kernel_rfl) (by simp) ?_
    refine AllReadyH.cons rfl (fun K hK => ?_) AllReadyH.nil
    go_simp
    refine (HSa.out _ _ _ _ F2.out (FL.out _ C1.out)).mono ?_
    rintro e u2 ⟨rfl, hb⟩
    have hb4 := Lib.hid hb
    have B2 := Lib.hid (Aft.trans B1.out hb)
    have C2 := Lib.hid (Aft.trans C1.out hb)
    clear hb
    refine hK.out _ _ (HC.out _ B2.out) (fun hHeld2 => ?_)
    clear hK K
    try simp only [Act.put, List.getElem_toArray, List.getElem_cons_zero, List.getElem_cons_succ, List.setIfInBounds_toArray, List.set_cons_zero, List.set_cons_succ]
    refine wpAnyH_take (i := 5) (v := ?_) rfl (by as_aux_lemma => kernel_rfl) (by as_aux_lemma => kernel_rfl) (by as_aux_lemma => kernel_rfl) (fun _ _ _ h => h) (Or.inl ⟨by as_aux_lemma => rfl, ?yt5⟩) (by assumption) ?qt5
    case yt5 => (intro wz hSw; (try dsimp only at hSw); go_simp <;> with_reducible rfl)
    try simp only [Act.put, List.getElem_toArray, List.getElem_cons_zero, List.getElem_cons_succ, List.setIfInBounds_toArray, List.set_cons_zero, List.set_cons_succ]
    refine wpAnyH_take (i := 6) (v := ?_) rfl (by as_aux_lemma => kernel_rfl) (by as_aux_lemma => kernel_rfl) (by as_aux_lemma => kernel_rfl) (fun _ _ _ h => h) (Or.inl ⟨by as_aux_lemma => rfl, ?yt6⟩) (by assumption) ?qt6
    case yt6 => (intro wz hSw; (try dsimp only at hSw); go_simp <;> with_reducible rfl)
    try simp only [Act.put, List.getElem_toArray, List.getElem_cons_zero, List.getElem_cons_succ, List.setIfInBounds_toArray, List.set_cons_zero, List.set_cons_succ]
    refine wpAnyH_take (i := 7) (v := ?_) rfl (by as_aux_lemma => kernel_rfl) (by as_aux_lemma => kernel_rfl) (by as_aux_lemma => kernel_rfl) (fun _ _ _ h => h) (Or.inl ⟨by as_aux_lemma => rfl, ?yt7⟩) (by assumption) ?qt7
    case yt7 => (intro wz hSw; (try dsimp only at hSw); go_simp <;> with_reducible rfl)
    try simp only [Act.put, List.getElem_toArray, List.getElem_cons_zero, List.getElem_cons_succ, List.setIfInBounds_toArray, List.set_cons_zero, List.set_cons_succ]
    refine wpAnyH_take (i := 8) (v := ?_) rfl (by as_aux_lemma => kernel_rfl) (by as_aux_lemma => kernel_rfl) (by as_aux_lemma => kernel_rfl) (fun _ _ _ h => h) (Or.inl ⟨by as_aux_lemma => rfl, ?yt8⟩) (by assumption) ?qt8
    case yt8 => (intro wz hSw; (try dsimp only at hSw); go_simp <;> with_reducible rfl)
    try simp only [Act.put, List.getElem_toArray, List.getElem_cons_zero, List.getElem_cons_succ, List.setIfInBounds_toArray, List.set_cons_zero, List.set_cons_succ]
    refine wpAnyH_take (i := 10) (v := ?_) rfl (by as_aux_lemma => kernel_rfl) (by as_aux_lemma => kernel_rfl) (by as_aux_lemma => kernel_rfl) (fun _ _ _ h => h) (Or.inl ⟨by as_aux_lemma => rfl, ?yt10⟩) (by assumption) ?qt10
    case yt10 => (intro wz hSw; (try dsimp only at hSw); go_simp <;> with_reducible rfl)
    try simp only [Act.put, List.getElem_toArray, List.getElem_cons_zero, List.getElem_cons_succ, List.setIfInBounds_toArray, List.set_cons_zero, List.set_cons_succ]
    refine wpAnyH_take (i := 11) (v := ?_) rfl (by as_aux_lemma => kernel_rfl) (by as_aux_lemma => kernel_rfl) (by as_aux_lemma => kernel_rfl) (fun _ _ _ h => h) (Or.inl ⟨by as_aux_lemma => rfl, ?yt11⟩) (by assumption) ?qt11
    case yt11 => (intro wz hSw; (try dsimp only at hSw); go_simp <;> with_reducible rfl)
    try simp only [Act.put, List.getElem_toArray, List.getElem_cons_zero, List.getElem_cons_succ, List.setIfInBounds_toArray, List.set_cons_zero, List.set_cons_succ]
    refine wpAnyH_ready (rs := [9]) (by as_aux_lemma => kernel_rfl) (by simp) ?_
    refine AllReadyH.cons rfl (fun K hK => ?_) AllReadyH.nil
    go_simp
    refine (HOk.out _ B2.out).mono ?_
    rintro e u3 ⟨x3, rfl, hx, _, hb⟩
    have F9 := Lib.hid hx
    have hb9 := Lib.hid hb
    have B3 := Lib.hid (Aft.trans B2.out hb)
    have C3 := Lib.hid (Aft.trans C2.out hb)
    clear hb hx
    refine hK.out _ _ (HC.out _ B3.out) (fun hHeld3 => ?_)
    clear hK K
    try simp only [Act.put, List.getElem_toArray, List.getElem_cons_zero, List.getElem_cons_succ, List.setIfInBounds_toArray, List.set_cons_zero, List.set_cons_succ]
    refine wpAnyH_ready (rs := [12]) (by as_aux_lemma => kernel_rfl) (by simp) ?_
    refine AllReadyH.cons rfl (fun K hK => ?_) AllReadyH.nil
    go_simp
    refine (HRk.out _ _ (FL.out _ C3.out)).mono ?_
    rintro e u4 ⟨x4, rfl, hx, _, hb⟩
    have F12 := Lib.hid hx
    have hb12 := Lib.hid hb
    have B4 := Lib.hid (Aft.trans B3.out hb)
    have C4 := Lib.hid (Aft.trans C3.out hb)
    clear hb hx
    refine hK.out _ _ (HC.out _ B4.out) (fun hHeld4 => ?_)
    clear hK K
    try simp only [Act.put, List.getElem_toArray, List.getElem_cons_zero, List.getElem_cons_succ, List.setIfInBounds_toArray, List.set_cons_zero, List.set_cons_succ]
    refine wpAnyH_ready (rs := [13]) (by as_aux_lemma => kernel_rfl) (by simp) ?_
    refine AllReadyH.cons rfl (fun K hK => ?_) AllReadyH.nil
    go_simp
    refine (HSa.out _ _ _ _ (F9.out.below hb12.out) F12.out).mono ?_
    rintro e u5 ⟨rfl, hb⟩
    have hb13 := Lib.hid hb
    have B5 := Lib.hid (Aft.trans B4.out hb)
    have C5 := Lib.hid (Aft.trans C4.out hb)
    clear hb
    refine hK.out _ _ (HC.out _ B5.out) (fun hHeld5 => ?_)
    clear hK K
    try simp only [Act.put, List.getElem_toArray, List.getElem_cons_zero, List.getElem_cons_succ, List.setIfInBounds_toArray, List.set_cons_zero, List.set_cons_succ]
    refine wpAnyH_take (i := 14) (v := ?_) rfl (by as_aux_lemma => kernel_rfl) (by as_aux_lemma => kernel_rfl) (by as_aux_lemma => kernel_rfl) (fun _ _ _ h => h) (Or.inl ⟨by as_aux_lemma => rfl, ?yt14⟩) (by assumption) ?qt14
    case yt14 => (intro wz hSw; (try dsimp only at hSw); go_simp <;> with_reducible rfl)
    try simp only [Act.put, List.getElem_toArray, List.getElem_cons_zero, List.getElem_cons_succ, List.setIfInBounds_toArray, List.set_cons_zero, List.set_cons_succ]
    refine wpAnyH_take (i := 15) (v := ?_) rfl (by as_aux_lemma => kernel_rfl) (by as_aux_lemma => kernel_rfl) (by as_aux_lemma => kernel_rfl) (fun _ _ _ h => h) (Or.inl ⟨by as_aux_lemma => rfl, ?yt15⟩) (by assumption) ?qt15
    case yt15 => (intro wz hSw; (try dsimp only at hSw); go_simp <;> with_reducible rfl)
    try simp only [Act.put, List.getElem_toArray, List.getElem_cons_zero, List.getElem_cons_succ, List.setIfInBounds_toArray, List.set_cons_zero, List.set_cons_succ]
    refine wpAnyH_take (i := 16) (v := ?_) rfl (by as_aux_lemma => kernel_rfl) (by as_aux_lemma => kernel_rfl) (by as_aux_lemma => kernel_rfl) (fun _ _ _ h => h) (Or.inl ⟨by as_aux_lemma => rfl, ?yt16⟩) (by assumption) ?qt16
    case yt16 => (intro wz hSw; (try dsimp only at hSw); go_simp <;> with_reducible rfl)
    try simp only [Act.put, List.getElem_toArray, List.getElem_cons_zero, List.getElem_cons_succ, List.setIfInBounds_toArray, List.set_cons_zero, List.set_cons_succ]
    refine wpAnyH_take (i := 17) (v := ?_) rfl (by as_aux_lemma => kernel_rfl) (by as_aux_lemma => kernel_rfl) (by as_aux_lemma => kernel_rfl) (fun _ _ _ h => h) (Or.inl ⟨by as_aux_lemma => rfl, ?yt17⟩) (by assumption) ?qt17
    case yt17 => (intro wz hSw; (try dsimp only at hSw); go_simp <;> with_reducible rfl)
    try simp only [Act.put, List.getElem_toArray, List.getElem_cons_zero, List.getElem_cons_succ, List.setIfInBounds_toArray, List.set_cons_zero, List.set_cons_succ]
    refine wpAnyH_take (i := 18) (v := ?_) rfl (by as_aux_lemma => kernel_rfl) (by as_aux_lemma => kernel_rfl) (by as_aux_lemma => kernel_rfl) (fun _ _ _ h => h) (Or.inl ⟨by as_aux_lemma => rfl, ?yt18⟩) (by assumption) ?qt18
    case yt18 => (intro wz hSw; (try dsimp only at hSw); go_simp <;> with_reducible rfl)
    try simp only [Act.put, List.getElem_toArray, List.getElem_cons_zero, List.getElem_cons_succ, List.setIfInBounds_toArray, List.set_cons_zero, List.set_cons_succ]
    refine wpAnyH_take (i := 20) (v := ?_) rfl (by as_aux_lemma => kernel_rfl) (by as_aux_lemma => kernel_rfl) (by as_aux_lemma => kernel_rfl) (fun _ _ _ h => h) (Or.inl ⟨by as_aux_lemma => rfl, ?yt20⟩) (by assumption) ?qt20
    case yt20 => (intro wz hSw; (try dsimp only at hSw); go_simp <;> with_reducible rfl)
    try simp only [Act.put, List.getElem_toArray, List.getElem_cons_zero, List.getElem_cons_succ, List.setIfInBounds_toArray, List.set_cons_zero, List.set_cons_succ]
    refine wpAnyH_take (i := 21) (v := ?_) rfl (by as_aux_lemma => kernel_rfl) (by as_aux_lemma => kernel_rfl) (by as_aux_lemma => kernel_rfl) (fun _ _ _ h => h) (Or.inl ⟨by as_aux_lemma => rfl, ?yt21⟩) (by assumption) ?qt21
    case yt21 => (intro wz hSw; (try dsimp only at hSw); go_simp <;> with_reducible rfl)
    try simp only [Act.put, List.getElem_toArray, List.getElem_cons_zero, List.getElem_cons_succ, List.setIfInBounds_toArray, List.set_cons_zero, List.set_cons_succ]
    refine wpAnyH_ready (rs := [19]) (by as_aux_lemma => kernel_rfl) (by simp) ?_
    refine AllReadyH.cons rfl (fun K hK => ?_) AllReadyH.nil
    go_simp
    refine (HIs.out _ B5.out).mono ?_
    rintro e u6 ⟨rfl, hb⟩
    have hb19 := Lib.hid hb
    have B6 := Lib.hid (Aft.trans B5.out hb)
    have C6 := Lib.hid (Aft.trans C5.out hb)
    clear hb
    refine hK.out _ _ (HC.out _ B6.out) (fun hHeld6 => ?_)
    clear hK K
    try simp only [Act.put, List.getElem_toArray, List.getElem_cons_zero, List.getElem_cons_succ, List.setIfInBounds_toArray, List.set_cons_zero, List.set_cons_succ]
    refine wpAnyH_ready (rs := [22]) (by as_aux_lemma => kernel_rfl) (by simp) ?_
    refine AllReadyH.cons rfl (fun K hK => ?_) AllReadyH.nil
    go_simp
    refine (HIn.out _ _ (FL.out _ C6.out)).mono ?_
    rintro e u7 ⟨rfl, hb⟩
    have hb22 := Lib.hid hb
    have B7 := Lib.hid (Aft.trans B6.out hb)
    have C7 := Lib.hid (Aft.trans C6.out hb)
    clear hb
    refine hK.out _ _ (HC.out _ B7.out) (fun hHeld7 => ?_)
    clear hK K
    try simp only [Act.put, List.getElem_toArray, List.getElem_cons_zero, List.getElem_cons_succ, List.setIfInBounds_toArray, List.set_cons_zero, List.set_cons_succ]
    refine wpAnyH_take (i := 23) (v := ?_) rfl (by as_aux_lemma => kernel_rfl) (by as_aux_lemma => kernel_rfl) (by as_aux_lemma => kernel_rfl) (fun _ _ _ h => h) (Or.inl ⟨by as_aux_lemma => rfl, ?yt23⟩) (by assumption) ?qt23
    case yt23 => (intro wz hSw; (try dsimp only at hSw); go_simp <;> with_reducible rfl)
    try simp only [Act.put, List.getElem_toArray, List.getElem_cons_zero, List.getElem_cons_succ, List.setIfInBounds_toArray, List.set_cons_zero, List.set_cons_succ]
    refine wpAnyH_take (i := 24) (v := ?_) rfl (by as_aux_lemma => kernel_rfl) (by as_aux_lemma => kernel_rfl) (by as_aux_lemma => kernel_rfl) (fun _ _ _ h => h) (Or.inl ⟨by as_aux_lemma => rfl, ?yt24⟩) (by assumption) ?qt24
    case yt24 => (intro wz hSw; (try dsimp only at hSw); go_simp <;> with_reducible rfl)
    try simp only [Act.put, List.getElem_toArray, List.getElem_cons_zero, List.getElem_cons_succ, List.setIfInBounds_toArray, List.set_cons_zero, List.set_cons_succ]
    refine wpAnyH_take (i := 25) (v := ?_) rfl (by as_aux_lemma => kernel_rfl) (by as_aux_lemma => kernel_rfl) (by as_aux_lemma => kernel_rfl) (fun _ _ _ h => h) (Or.inl ⟨by as_aux_lemma => rfl, ?yt25⟩) (by assumption) ?qt25
    case yt25 => (intro wz hSw; (try dsimp only at hSw); go_simp <;> with_reducible rfl)
    try simp only [Act.put, List.getElem_toArray, List.getElem_cons_zero, List.getElem_cons_succ, List.setIfInBounds_toArray, List.set_cons_zero, List.set_cons_succ]
    refine wpAnyH_take (i := 26) (v := ?_) rfl (by as_aux_lemma => kernel_rfl) (by as_aux_lemma => kernel_rfl) (by as_aux_lemma => kernel_rfl) (fun _ _ _ h => h) (Or.inl ⟨by as_aux_lemma => rfl, ?yt26⟩) (by assumption) ?qt26
    case yt26 => (intro wz hSw; (try dsimp only at hSw); go_simp <;> with_reducible rfl)
    try simp only [Act.put, List.getElem_toArray, List.getElem_cons_zero, List.getElem_cons_succ, List.setIfInBounds_toArray, List.set_cons_zero, List.set_cons_succ]
    refine wpAnyH_take (i := 27) (v := ?_) rfl (by as_aux_lemma => kernel_rfl) (by as_aux_lemma => kernel_rfl) (by as_aux_lemma => kernel_rfl) (fun _ _ _ h => h) (Or.inl ⟨by as_aux_lemma => rfl, ?yt27⟩) (by assumption) ?qt27
    case yt27 => (intro wz hSw; (try dsimp only at hSw); go_simp <;> with_reducible rfl)
    try simp only [Act.put, List.getElem_toArray, List.getElem_cons_zero, List.getElem_cons_succ, List.setIfInBounds_toArray, List.set_cons_zero, List.set_cons_succ]
    refine wpAnyH_take (i := 29) (v := ?_) rfl (by as_aux_lemma => kernel_rfl) (by as_aux_lemma => kernel_rfl) (by as_aux_lemma => kernel_rfl) (fun _ _ _ h => h) (Or.inl ⟨by as_aux_lemma => rfl, ?yt29⟩) (by assumption) ?qt29
    case yt29 => (intro wz hSw; (try dsimp only at hSw); go_simp <;> with_reducible rfl)
    try simp only [Act.put, List.getElem_toArray, List.getElem_cons_zero, List.getElem_cons_succ, List.setIfInBounds_toArray, List.set_cons_zero, List.set_cons_succ]
    refine wpAnyH_take (i := 30) (v := ?_) rfl (by as_aux_lemma => kernel_rfl) (by as_aux_lemma => kernel_rfl) (by as_aux_lemma => kernel_rfl) (fun _ _ _ h => h) (Or.inl ⟨by as_aux_lemma => rfl, ?yt30⟩) (by assumption) ?qt30
    case yt30 => (intro wz hSw; (try dsimp only at hSw); go_simp <;> with_reducible rfl)
    try simp only [Act.put, List.getElem_toArray, List.getElem_cons_zero, List.getElem_cons_succ, List.setIfInBounds_toArray, List.set_cons_zero, List.set_cons_succ]
    refine wpAnyH_ready (rs := [28]) (by as_aux_lemma => kernel_rfl) (by simp) ?_
    refine AllReadyH.cons rfl (fun K hK => ?_) AllReadyH.nil
    go_simp
    refine (HLe.out _).mono ?_
    rintro e u8 ⟨rfl, hb⟩
    have hb28 := Lib.hid hb
    have B8 := Lib.hid (Aft.trans B7.out hb)
    have C8 := Lib.hid (Aft.trans C7.out hb)
    clear hb
    refine hK.out _ _ (HC.out _ B8.out) (fun hHeld8 => ?_)
    clear hK K
    try simp only [Act.put, List.getElem_toArray, List.getElem_cons_zero, List.getElem_cons_succ, List.setIfInBounds_toArray, List.set_cons_zero, List.set_cons_succ]
    refine wpAnyH_ready (rs := [31]) (by as_aux_lemma => kernel_rfl) (by simp) ?_
    refine AllReadyH.cons rfl (fun K hK => ?_) AllReadyH.nil
    go_simp
    refine (HRl.out _).mono ?_
    rintro e u9 ⟨rfl, hb⟩
    have hb31 := Lib.hid hb
    have B9 := Lib.hid (Aft.trans B8.out hb)
    have C9 := Lib.hid (Aft.trans C8.out hb)
    clear hb
    refine hK.out _ _ (HC.out _ B9.out) (fun hHeld9 => ?_)
    clear hK K
    try simp only [Act.put, List.getElem_toArray, List.getElem_cons_zero, List.getElem_cons_succ, List.setIfInBounds_toArray, List.set_cons_zero, List.set_cons_succ]
    refine wpAnyH_take (i := 32) (v := ?_) rfl (by as_aux_lemma => kernel_rfl) (by as_aux_lemma => kernel_rfl) (by as_aux_lemma => kernel_rfl) (fun _ _ _ h => h) (Or.inl ⟨by as_aux_lemma => rfl, ?yt32⟩) (by assumption) ?qt32
    case yt32 => (intro wz hSw; (try dsimp only at hSw); go_simp <;> with_reducible rfl)
    try simp only [Act.put, List.getElem_toArray, List.getElem_cons_zero, List.getElem_cons_succ, List.setIfInBounds_toArray, List.set_cons_zero, List.set_cons_succ]
    refine wpAnyH_take (i := 33) (v := ?_) rfl (by as_aux_lemma => kernel_rfl) (by as_aux_lemma => kernel_rfl) (by as_aux_lemma => kernel_rfl) (fun _ _ _ h => h) (Or.inl ⟨by as_aux_lemma => rfl, ?yt33⟩) (by assumption) ?qt33
    case yt33 => (intro wz hSw; (try dsimp only at hSw); go_simp <;> with_reducible rfl)
    try simp only [Act.put, List.getElem_toArray, List.getElem_cons_zero, List.getElem_cons_succ, List.setIfInBounds_toArray, List.set_cons_zero, List.set_cons_succ]
    refine wpAnyH_take (i := 34) (v := ?_) rfl (by as_aux_lemma => kernel_rfl) (by as_aux_lemma => kernel_rfl) (by as_aux_lemma => kernel_rfl) (fun _ _ _ h => h) (Or.inl ⟨by as_aux_lemma => rfl, ?yt34⟩) (by assumption) ?qt34
    case yt34 => (intro wz hSw; (try dsimp only at hSw); go_simp <;> with_reducible rfl)
    try simp only [Act.put, List.getElem_toArray, List.getElem_cons_zero, List.getElem_cons_succ, List.setIfInBounds_toArray, List.set_cons_zero, List.set_cons_succ]
    refine wpAnyH_ready (rs := [35]) (by as_aux_lemma => kernel_rfl) (by simp) ?_
    refine AllReadyH.cons rfl (fun K hK => ?_) AllReadyH.nil
    go_simp
    refine (lives _).mono ?_
    rintro e u10 ⟨rfl, hb⟩
    have hb35 := Lib.hid hb
    have B10 := Lib.hid (Aft.trans B9.out hb)
    have C10 := Lib.hid (Aft.trans C9.out hb)
    clear hb
    refine hK.out _ _ (HC.out _ B10.out) (fun hHeld10 => ?_)
    clear hK K
    try simp only [Act.put, List.getElem_toArray, List.getElem_cons_zero, List.getElem_cons_succ, List.setIfInBounds_toArray, List.set_cons_zero, List.set_cons_succ]
    refine wpAnyH_take (i := 36) (v := ?_) rfl (by as_aux_lemma => kernel_rfl) (by as_aux_lemma => kernel_rfl) (by as_aux_lemma => kernel_rfl) (fun _ _ _ h => h) (Or.inl ⟨by as_aux_lemma => rfl, ?yt36⟩) (by assumption) ?qt36
    case yt36 => (intro wz hSw; (try dsimp only at hSw); go_simp <;> with_reducible rfl)
    try simp only [Act.put, List.getElem_toArray, List.getElem_cons_zero, List.getElem_cons_succ, List.setIfInBounds_toArray, List.set_cons_zero, List.set_cons_succ]
    refine wpAnyH_take (i := 37) (v := ?_) rfl (by as_aux_lemma => kernel_rfl) (by as_aux_lemma => kernel_rfl) (by as_aux_lemma => kernel_rfl) (fun _ _ _ h => h) (Or.inl ⟨by as_aux_lemma => rfl, ?yt37⟩) (by assumption) ?qt37
    case yt37 => (intro wz hSw; (try dsimp only at hSw); go_simp <;> with_reducible rfl)
    try simp only [Act.put, List.getElem_toArray, List.getElem_cons_zero, List.getElem_cons_succ, List.setIfInBounds_toArray, List.set_cons_zero, List.set_cons_succ]
    refine wpAnyH_done (by as_aux_lemma => kernel_rfl) ?_ _
    go_wp2_with fail
    exact HE.out _ B10.out
end Go.Proofs.Ythmhgngfealccaa.Off
