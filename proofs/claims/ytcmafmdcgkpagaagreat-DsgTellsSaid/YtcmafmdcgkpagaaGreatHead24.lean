/-
  Contracts of small functions, several texts laid into one. Not a statement of the seat.
-/
import Derived.Test.YtcmafmdcgkpagaaGreatHead18
import Derived.Test.YtcmafmdcgkpagaaGreatHiQr
import Derived.Test.YtcmafmdcgkpagaaGreatFrame
import Derived.Test.YtcmafmdcgkpagaaGreatHead23
import Derived.Test.YtcmafmdcgkpagaaGreatHead4
namespace Go.Proofs.YtcmafmdcgkpagaaGreat.Dg
open Go.ChangeShapes Go.WideShapes Go.ChangeAt Go.RowKit Base F Tx Hi
theorem refC_cnt {h : Hist} (e : Edg) : (if rightH h = true then refC h e else 0) = cntE h (fun _ => true) e := by
  cases hr : rightH h with
  | true => rw [if_pos rfl, cnt_ref hr]
  | false => rw [if_neg (by simp), cntE_wrong hr]
set_option maxRecDepth 100000 in
set_option maxHeartbeats 4000000 in
theorem rCount_any {v u : Value} {h : Hist} (w : World) (hh : HistV w v u h) (hs : HistSm h) (e : Edg) : Calls Tryz.prog 12 #[.agg #[v, u], .agg #[.int .i64 e.f, .int .i64 e.t, .int .i64 e.kd, .int .i64 e.k]] w (IntNew ((cntE h (fun _ => true) e : Nat) : Int) w) := by
  obtain ⟨p, c, hv, _⟩ := hh.1.form
  obtain ⟨q, d, hu, _⟩ := hh.2.form
  subst hv hu
  obtain ⟨x0, x1, x2, x3⟩ := e
  dsimp only
  obtain ⟨X, hX⟩ : ∃ X, X = (w.alloc (.cells #[.slice p h.txs.length c, .slice q h.ords.length d] 25)).alloc (.cells #[.int .i64 x0, .int .i64 x1, .int .i64 x2, .int .i64 x3] 27) := ⟨_, rfl⟩
  have HA : Hid (Aft w X) := Lib.hid (by rw [hX]; exact (Aft.one _).lay _)
  have HC : Hid (∀ Z, Aft X Z → ((Z.cell? ⟨w.heap.size, 0, none⟩ = some (.slice p h.txs.length c) ∧ Z.cell? ⟨w.heap.size, 1, none⟩ = some (.slice q h.ords.length d)) ∧ Z.cell? ⟨w.heap.size + 1, 0, none⟩ = some (.int .i64 x0) ∧ Z.cell? ⟨w.heap.size + 1, 1, none⟩ = some (.int .i64 x1) ∧ Z.cell? ⟨w.heap.size + 1, 2, none⟩ = some (.int .i64 x2) ∧ Z.cell? ⟨w.heap.size + 1, 3, none⟩ = some (.int .i64 x3)) ∧ w.heap.size + 1 < Z.heap.size) := Lib.hid fun Z hZ => by
    have e0 : X.heap[w.heap.size]? = some (.cells #[.slice p h.txs.length c, .slice q h.ords.length d] 25) := by rw [hX]; exact heap_alloc_lt _ _ _ _ (heap_alloc_at _ _ _ rfl)
    have e1 : X.heap[w.heap.size + 1]? = some (.cells #[.int .i64 x0, .int .i64 x1, .int .i64 x2, .int .i64 x3] 27) := by rw [hX]; exact heap_alloc_at _ _ _ (by simp)
    have k0 := (hZ.block _ (heap_lt e0)).trans e0
    have k1 := (hZ.block _ (heap_lt e1)).trans e1
    exact ⟨by simp [World.cell?, k0, k1], heap_lt k1⟩
  have HR := Lib.hid (rrightH_any X (hh.below HA.out) hs)
  have HCN : Hid (∀ W, Aft X W → Calls Tryz.prog 19 #[.agg #[.slice p h.txs.length c, .slice q h.ords.length d], .agg #[.int .i64 x0, .int .i64 x1, .int .i64 x2, .int .i64 x3]] W (IntNew ((refC h ⟨x0, x1, x2, x3⟩ : Nat) : Int) W)) := Lib.hid fun W hW => rcount_any W (hh.below (HA.out.trans hW)) hs ⟨x0, x1, x2, x3⟩
  have HE : Hid (∀ W, Aft X W → IntNew ((cntE h (fun _ => true) ⟨x0, x1, x2, x3⟩ : Nat) : Int) w (.returned (.int .i64 ((if rightH h = true then refC h ⟨x0, x1, x2, x3⟩ else 0 : Nat) : Int))) W) := Lib.hid fun W hW => ⟨by rw [refC_cnt], HA.out.trans hW⟩
  generalize IntNew ((cntE h (fun _ => true) ⟨x0, x1, x2, x3⟩ : Nat) : Int) w = Post at HE ⊢
  generalize refC h ⟨x0, x1, x2, x3⟩ = rc at HCN HE
  generalize h.txs.length = n1 at *
  generalize h.ords.length = n2 at *
  obtain ⟨⟨⟨c0, c1⟩, d0, d1, d2, d3⟩, hxs⟩ := HC.out X (Aft.refl _)
  clear hh hs HA
  generalize rightH h = rr at HR HE
  go_enter Tryz.func12, Tryz.ntmps12
  go_upto_region 1 with fail
  rw [← hX]
  clear hX
  go_wp2_with fail
  refine HR.out.mono ?_
  rintro e w2 ⟨rfl, ha⟩
  have HA2 : Hid (Aft X w2) := Lib.hid ha
  clear ha HR c0 c1 d0 d1 d2 d3 hxs
  obtain ⟨⟨⟨c0, c1⟩, d0, d1, d2, d3⟩, hxs⟩ := HC.out w2 HA2.out
  cases rr with
  | false =>
    have HF : Hid (Post (.returned (.int .i64 0)) w2) := HE.out w2 HA2.out |> Lib.hid
    clear HE HCN HC HA2
    go_wp2_with fail
    exact HF.out
  | true =>
    go_wp2_with fail
    refine (HCN.out w2 HA2.out).mono ?_
    rintro e w3 ⟨rfl, ha⟩
    have HF : Hid (Post (.returned (.int .i64 (rc : Int))) w3) := HE.out w3 (HA2.out.trans ha) |> Lib.hid
    clear HE HCN HC HA2 ha c0 c1 d0 d1 d2 d3 hxs
    go_wp2_with fail
    exact HF.out
/-- What the walk over the edges holds. -/
def EI (w3 : World) (gA : Nat) (bx : Obj) (l : List Hvy) (v : Value) (wr : World) : Prop := OwnHvy w3.heap.size wr v l ∧ Aft w3 wr ∧ wr.heap[gA]? = some bx
theorem EI.after {w3 wr W : World} {gA : Nat} {bx : Obj} {l : List Hvy} {v : Value} (h : EI w3 gA bx l v wr) (ha : Aft wr W) : EI w3 gA bx l v W := ⟨h.1.below ha, h.2.1.trans ha, (ha.block _ (heap_lt h.2.2)).trans h.2.2⟩
theorem EI.app {w3 Z w5 : World} {gA : Nat} {cs : Array Value} {t : TypeId} {l : List Hvy} {v v5 : Value} {x : Hvy} (h : EI w3 gA (.cells cs t) l v Z) (ht : t ≠ 48) (ob : Obj) (h5 : OwnHvy w3.heap.size w5 v5 (l ++ [x])) (hg : (Z.alloc ob).grownBy w5 v.ownBlock) : EI w3 gA (.cells cs t) (l ++ [x]) v5 w5 := by
  obtain ⟨h1, h2, h3⟩ := h
  have hn := F.own_ne h1 h3 ht
  refine ⟨h5, (h2.trans (Aft.one ob)).grown hg (by have := h2.size; simp only [World.size_alloc]; omega) (fun g e => (h1.base g e).1), ?_⟩
  exact (hg.block _ (by have := heap_lt h3; simp only [World.size_alloc]; omega) (fun e => hn e.symm)).trans ((Below.heap_alloc _ _ _ (heap_lt h3)).trans h3)
set_option maxRecDepth 100000 in
set_option maxHeartbeats 32000000 in
theorem redges_any {v u : Value} {h : Hist} (w : World) (hh : HistV w v u h) (hs : HistSm h) (h12 : h.txs.length ≤ 12) (h24 : ∀ t ∈ h.txs, t.ops.length ≤ 24) : Calls Tryz.prog 6 #[.agg #[v, u]] w (HvL (refL h) w) := by
  obtain ⟨p, c, hv, _⟩ := hh.1.form
  obtain ⟨q, d, hu, _⟩ := hh.2.form
  subst hv hu
  have HH := Lib.hid hh
  have HSM := Lib.hid hs
  have HKL : Hid ((keysA h).length ≤ 288) := Lib.hid (by
    have h1 := keysL_len (h.txs.flatMap fun t => t.ops.map Opr.k)
    have h2 := flat_len (fun t : Txn => t.ops.map Opr.k) 24 h.txs (fun t ht => by rw [List.length_map]; exact h24 t ht)
    unfold keysA
    omega)
  have H12 := Lib.hid h12
  obtain ⟨n1, hn1⟩ : ∃ n, n = h.txs.length := ⟨_, rfl⟩
  obtain ⟨n2, hn2⟩ : ∃ n, n = h.ords.length := ⟨_, rfl⟩
  have HN1 := Lib.hid hn1
  rw [← hn1, ← hn2] at HH
  rw [← hn1, ← hn2]
  clear hh hs h12 h24 hn1 hn2
  obtain ⟨X, hX⟩ : ∃ X, X = w.alloc (.cells #[.slice p n1 c, .slice q n2 d] 25) := ⟨_, rfl⟩
  have HA : Hid (Aft w X) := Lib.hid (by rw [hX]; exact Aft.one _)
  have HC : Hid (∀ Z, Aft X Z → (Z.cell? ⟨w.heap.size, 0, none⟩ = some (.slice p n1 c) ∧ Z.cell? ⟨w.heap.size, 1, none⟩ = some (.slice q n2 d)) ∧ w.heap.size < Z.heap.size) := Lib.hid fun Z hZ => by
    have e : X.heap[w.heap.size]? = some (.cells #[.slice p n1 c, .slice q n2 d] 25) := by rw [hX]; exact heap_alloc_at _ _ _ rfl
    have k := (hZ.block _ (heap_lt e)).trans e
    exact ⟨by simp [World.cell?, k], heap_lt k⟩
  have HV : Hid (∀ W, Aft X W → HistV W (.slice p n1 c) (.slice q n2 d) h) := Lib.hid fun W hW => HH.out.below (HA.out.trans hW)
  have HR := Lib.hid (rrightH_any X (HV.out X (Aft.refl _)) HSM.out)
  have HKY : Hid (∀ W, Aft X W → Calls Tryz.prog 18 #[.agg #[.slice p n1 c, .slice q n2 d]] W (fun e w' => ∃ v1, e = .returned v1 ∧ Lst.Ints 0 w' v1 (keysA h) ∧ Aft W w')) := Lib.hid fun W hW => rkeys_any W (HV.out W hW) HSM.out
  have HCN : Hid (∀ W, Aft X W → ∀ e : Edg, Calls Tryz.prog 19 #[.agg #[.slice p n1 c, .slice q n2 d], .agg #[.int .i64 e.f, .int .i64 e.t, .int .i64 e.kd, .int .i64 e.k]] W (IntNew ((refC h e : Nat) : Int) W)) := Lib.hid fun W hW e => rcount_any W (HV.out W hW) HSM.out e
  have HE : Hid (∀ W u, Aft X W → OwnHvy X.heap.size W u (refL h) → HvL (refL h) w (.returned u) W) := Lib.hid fun W u hW ho => ⟨u, rfl, ownsRow_less ho HA.out.size, HA.out.trans hW⟩
  generalize HvL (refL h) w = Post at HE ⊢
  have HRL : Hid (refL h = if rightH h = true then segA h (keysA h) h.txs else []) := Lib.hid rfl
  generalize refL h = rl at HE HRL
  obtain ⟨⟨c0, c1⟩, hbl⟩ := HC.out X (Aft.refl _)
  generalize rightH h = rr at HR HRL
  go_enter Tryz.func6, Tryz.ntmps6
  go_upto_region 1 with fail
  rw [← hX]
  clear hX HH
  go_wp2_with fail
  refine HR.out.mono ?_
  rintro e w2 ⟨rfl, ha⟩
  have HA2 : Hid (Aft X w2) := Lib.hid ha
  clear ha HR c0 c1 hbl
  obtain ⟨⟨c0, c1⟩, hbl⟩ := HC.out w2 HA2.out
  cases rr with
  | false =>
    have HF : Hid (Post (.returned (.slice none 0 0)) w2) := Lib.hid (HE.out w2 _ HA2.out (by rw [HRL.out]; exact OwnHvy.nil _ _))
    clear HE HCN HC HA2 HKY HV
    go_wp2_with fail
    exact HF.out
  | true =>
    have HRS : Hid (rl = segA h (keysA h) h.txs) := Lib.hid HRL.out
    clear HRL
    go_wp2_with fail
    refine (HKY.out w2 HA2.out).mono ?_
    rintro e w3 ⟨vk, rfl, hks, ha⟩
    have HA3 : Hid (Aft X w3) := Lib.hid (HA2.out.trans ha)
    obtain ⟨ks, hke⟩ : ∃ l, l = keysA h := ⟨_, rfl⟩
    rw [← hke] at hks HKL HRS
    obtain ⟨kp, kc, hvk, hk64, hkc⟩ := hks.open_
    subst hvk
    have HKC := Lib.hid hkc
    obtain ⟨kn, hkn⟩ : ∃ n, n = ks.length := ⟨_, rfl⟩
    have HKN := Lib.hid hkn
    rw [← hkn] at HKC HKL hk64 ⊢
    clear ha hks hkc hke hkn HKY HA2 c0 c1 hbl
    have HT3 : Hid (Txs w3 (.slice p n1 c) h.txs) := Lib.hid (HV.out w3 HA3.out).1
    have HX0 : Hid (OwnHvy w3.heap.size w3 (.slice none 0 0) (segA h ks (h.txs.take 0)) ∧ Aft w3 w3) := Lib.hid ⟨OwnHvy.nil _ _, Aft.refl _⟩
    have hkl : kn ≤ 288 := HKL.out
    have hn12 : n1 ≤ 12 := by have := H12.out; have := HN1.out; omega
    obtain ⟨⟨c0, c1⟩, hbl⟩ := HC.out w3 HA3.out
    clear HV
    go_wp2_with fail
    clear c0 c1 hbl
    go_loopw [4, 22] (fun s4 s22 wr => ∃ i : Nat, s22 = .int .i64 (i : Int) ∧ i ≤ n1 ∧ ∃ vo, vo = s4 ∧ Hid (OwnHvy w3.heap.size wr vo (segA h ks (h.txs.take i)) ∧ Aft w3 wr)) (fun _ s22 _ => n1 - (intOf s22).toNat)
    case atStart => exact ⟨0, rfl, Nat.zero_le _, _, rfl, HX0⟩
    case round =>
      clear HX0
      obtain ⟨i, rfl, hi, vo, hvo, HW⟩ := hrel
      subst hvo
      obtain ⟨wA, hwA⟩ : ∃ wA, wA = wr := ⟨_, rfl⟩
      subst hwA
      by_cases hlt : i < n1
      · have hltx : i < h.txs.length := by rw [← HN1.out]; exact hlt
        obtain ⟨g, o, asp, asc, e1, hg, c0, c1, c2, _⟩ := (show Txs w3 (.slice _ h.txs.length c) h.txs from by have := HT3.out; rw [HN1.out] at this; exact this).at_ hltx
        have c0 := HW.out.2.cell hg c0
        have c1 := HW.out.2.cell hg c1
        have c2 := HW.out.2.cell hg c2
        have hg := Nat.lt_of_lt_of_le hg HW.out.2.size
        subst e1
        have hiI : (i : Int) < (n1 : Int) := by omega
        have HTA : Hid (segA h ks (h.txs.take (i + 1)) = segA h ks (h.txs.take i) ++ segD h (h.txs.getD i Txn.zero).id ks 3) := Lib.hid (take_flat _ Txn.zero h.txs i hltx)
        have HL1 : Hid ((segA h ks (h.txs.take i)).length ≤ 12 * 288 * 3 * 12) := Lib.hid (Nat.le_trans (segA_len h ks _ 12 288 H12.out (by rw [← HKN.out]; exact hkl)) (Nat.mul_le_mul_left _ (by rw [List.length_take]; omega)))
        generalize h.txs.getD i Txn.zero = t at c0 c1 c2 HTA
        obtain ⟨ai, ad, al⟩ := t
        simp only at c0 c1 c2 HTA
        generalize al.length = an at c2
        generalize segA h ks (h.txs.take i) = L1 at HW HTA HL1
        obtain ⟨Y, hY⟩ : ∃ Y, Y = wA.alloc (.cells #[.int .i64 ai, .bool ad, .slice asp an asc] 42) := ⟨_, rfl⟩
        have HI1 : Hid (EI w3 wA.heap.size (.cells #[.int .i64 ai, .bool ad, .slice asp an asc] 42) (L1 ++ segD h ai ks 0) vo Y) := Lib.hid (by rw [hY]; exact ⟨by rw [show L1 ++ segD h ai ks 0 = L1 from by simp [segD]]; exact HW.out.1.below (Aft.one _), HW.out.2.trans (Aft.one _), heap_alloc_at _ _ _ rfl⟩)
        clear HW
        go_upto_region 8 with fail
        rw [← hY]
        clear hY c0 c1 c2
        go_wp2_with fail
        go_loopw [4, 7] (fun s4 s7 wr => ∃ kd : Nat, s7 = .int .i64 ((kd : Int) + 1) ∧ kd ≤ 3 ∧ ∃ vo, vo = s4 ∧ Hid (EI w3 wA.heap.size (.cells #[.int .i64 ai, .bool ad, .slice asp an asc] 42) (L1 ++ segD h ai ks kd) vo wr)) (fun _ s7 _ => 4 - (intOf s7).toNat)
        case atStart => exact ⟨0, rfl, Nat.zero_le _, _, rfl, HI1⟩
        case round =>
          clear HI1
          obtain ⟨kd, rfl, hkd, vo, hvo, HW⟩ := hrel
          subst hvo
          by_cases hlt3 : kd < 3
          · have hle1 : decide ((kd : Int) + 1 ≤ 3) = true := decide_eq_true (by omega)
            have HTD : Hid (L1 ++ segD h ai ks (kd + 1) = (L1 ++ segD h ai ks kd) ++ segK h ai ((kd : Int) + 1) ks) := Lib.hid (by rw [segD_succ, List.append_assoc])
            have HL2 : Hid ((L1 ++ segD h ai ks kd).length ≤ 12 * 288 * 3 * 12 + 12 * 288 * 3) := Lib.hid (by rw [List.length_append]; have h1 := HL1.out; have h2 := segD_len h ai ks kd 12 288 H12.out (by rw [← HKN.out]; exact hkl); have h3 : 12 * 288 * kd ≤ 12 * 288 * 3 := Nat.mul_le_mul_left _ (by omega); omega)
            generalize L1 ++ segD h ai ks kd = L2 at HW HTD HL2
            have HI2 : Hid (EI w3 wA.heap.size (.cells #[.int .i64 ai, .bool ad, .slice asp an asc] 42) (L2 ++ segK h ai ((kd : Int) + 1) (ks.take 0)) vo wr) := Lib.hid (by simpa [segK] using HW.out)
            have hwk : IntKind.i64.wrap (((kd : Int) + 1) + 1) = ((kd + 1 : Nat) : Int) + 1 := by rw [IntKind.wrap_i64] <;> omega
            clear HW
            go_wp2_with fail
            go_loopw [4, 32] (fun s4 s32 wr => ∃ j : Nat, s32 = .int .i64 (j : Int) ∧ j ≤ kn ∧ ∃ vo, vo = s4 ∧ Hid (EI w3 wA.heap.size (.cells #[.int .i64 ai, .bool ad, .slice asp an asc] 42) (L2 ++ segK h ai ((kd : Int) + 1) (ks.take j)) vo wr)) (fun _ s32 _ => kn - (intOf s32).toNat)
            case atStart => exact ⟨0, rfl, Nat.zero_le _, _, rfl, HI2⟩
            case round =>
              clear HI2
              obtain ⟨j, rfl, hj, vo, hvo, HW⟩ := hrel
              subst hvo
              by_cases hlt4 : j < kn
              · have hltk : j < ks.length := by rw [← HKN.out]; exact hlt4
                obtain ⟨g, o, e1, _, hg, c0⟩ := HKC.out j hlt4
                have c0 := HW.out.2.1.cell hg c0
                have hg := Nat.lt_of_lt_of_le hg HW.out.2.1.size
                subst e1
                have hjI : (j : Int) < (kn : Int) := by omega
                have HTK : Hid (L2 ++ segK h ai ((kd : Int) + 1) (ks.take (j + 1)) = (L2 ++ segK h ai ((kd : Int) + 1) (ks.take j)) ++ segB h ai ((kd : Int) + 1) (ks.getD j 0) h.txs) := Lib.hid (by rw [segK, take_flat _ 0 ks j hltk, List.append_assoc]; rfl)
                have HL3 : Hid ((L2 ++ segK h ai ((kd : Int) + 1) (ks.take j)).length ≤ 12 * 288 * 3 * 12 + 12 * 288 * 3 + 12 * 288) := Lib.hid (by rw [List.length_append]; have h1 := HL2.out; have h2 := segK_len h ai ((kd : Int) + 1) (ks.take j) 12 H12.out; rw [List.length_take] at h2; have h3 : 12 * min j ks.length ≤ 12 * 288 := Nat.mul_le_mul_left _ (by omega); omega)
                generalize ks.getD j 0 = kk at c0 HTK
                generalize L2 ++ segK h ai ((kd : Int) + 1) (ks.take j) = L3 at HW HTK HL3
                have HI3 : Hid (EI w3 wA.heap.size (.cells #[.int .i64 ai, .bool ad, .slice asp an asc] 42) (L3 ++ segB h ai ((kd : Int) + 1) kk (h.txs.take 0)) vo wr) := Lib.hid (by simpa [segB] using HW.out)
                obtain ⟨⟨q0, q1⟩, hql⟩ := HC.out wr (HA3.out.trans HW.out.2.1)
                clear HW
                go_wp2_with fail
                clear c0 q0 q1 hql hg
                go_loopw [4, 39] (fun s4 s39 wr => ∃ m : Nat, s39 = .int .i64 (m : Int) ∧ m ≤ n1 ∧ ∃ vo, vo = s4 ∧ Hid (EI w3 wA.heap.size (.cells #[.int .i64 ai, .bool ad, .slice asp an asc] 42) (L3 ++ segB h ai ((kd : Int) + 1) kk (h.txs.take m)) vo wr)) (fun _ s39 _ => n1 - (intOf s39).toNat)
                case atStart => exact ⟨0, rfl, Nat.zero_le _, _, rfl, HI3⟩
                case round =>
                  clear HI3
                  obtain ⟨m, rfl, hm, vo, hvo, HW⟩ := hrel
                  subst hvo
                  obtain ⟨wB, hwB⟩ : ∃ wB, wB = wr := ⟨_, rfl⟩
                  subst hwB
                  by_cases hlt5 : m < n1
                  · have hltx : m < h.txs.length := by rw [← HN1.out]; exact hlt5
                    obtain ⟨g, o, bsp, bsc, e1, hg, c0, c1, c2, _⟩ := (show Txs w3 (.slice _ h.txs.length c) h.txs from by have := HT3.out; rw [HN1.out] at this; exact this).at_ hltx
                    have c0 := HW.out.2.1.cell hg c0
                    have c1 := HW.out.2.1.cell hg c1
                    have c2 := HW.out.2.1.cell hg c2
                    have hg := Nat.lt_of_lt_of_le hg HW.out.2.1.size
                    injection e1 with e1
                    injection e1 with e1 e2
                    subst e1 e2
                    have hmI : (m : Int) < (n1 : Int) := by omega
                    have HTB : Hid (L3 ++ segB h ai ((kd : Int) + 1) kk (h.txs.take (m + 1)) = (L3 ++ segB h ai ((kd : Int) + 1) kk (h.txs.take m)) ++ one1 h ⟨ai, (h.txs.getD m Txn.zero).id, (kd : Int) + 1, kk⟩) := Lib.hid (by rw [segB, take_flat _ Txn.zero h.txs m hltx, List.append_assoc]; rfl)
                    have HL4 : Hid ((L3 ++ segB h ai ((kd : Int) + 1) kk (h.txs.take m)).length ≤ 999999) := Lib.hid (by rw [List.length_append]; have h1 := HL3.out; have h2 := segB_len h ai ((kd : Int) + 1) kk (h.txs.take m); rw [List.length_take] at h2; omega)
                    generalize h.txs.getD m Txn.zero = t at c0 c1 c2 HTB
                    obtain ⟨bi, bd, bl⟩ := t
                    simp only at c0 c1 c2 HTB
                    generalize bl.length = bn at c2
                    generalize L3 ++ segB h ai ((kd : Int) + 1) kk (h.txs.take m) = L4 at HW HTB HL4
                    obtain ⟨Y, hY⟩ : ∃ Y, Y = wB.alloc (.cells #[.int .i64 bi, .bool bd, .slice bsp bn bsc] 42) := ⟨_, rfl⟩
                    obtain ⟨D, hD⟩ : ∃ D, D = Y.alloc (.cells #[.int .i64 ai, .int .i64 bi, .int .i64 ((kd : Int) + 1), .int .i64 kk] 27) := ⟨_, rfl⟩
                    have HIY : Hid (EI w3 wA.heap.size (.cells #[.int .i64 ai, .bool ad, .slice asp an asc] 42) L4 vo Y ∧ Y.heap[wB.heap.size]? = some (.cells #[.int .i64 bi, .bool bd, .slice bsp bn bsc] 42)) := Lib.hid (by rw [hY]; exact ⟨HW.out.after (Aft.one _), heap_alloc_at _ _ _ rfl⟩)
                    have HID : Hid (EI w3 wA.heap.size (.cells #[.int .i64 ai, .bool ad, .slice asp an asc] 42) L4 vo D ∧ D.heap[Y.heap.size]? = some (.cells #[.int .i64 ai, .int .i64 bi, .int .i64 ((kd : Int) + 1), .int .i64 kk] 27)) := Lib.hid (by rw [hD]; exact ⟨HIY.out.1.after (Aft.one _), heap_alloc_at _ _ _ rfl⟩)
                    have m0 : Y.cell? ⟨wA.heap.size, 0, none⟩ = some (.int .i64 ai) := by have e := HIY.out.1.2.2; simp [World.cell?, e]
                    have m1 : Y.cell? ⟨wB.heap.size, 0, none⟩ = some (.int .i64 bi) := by have e := HIY.out.2; simp [World.cell?, e]
                    have hl1 := heap_lt HIY.out.1.2.2
                    have hl2 := heap_lt HIY.out.2
                    clear HW
                    go_upto_region 17 with fail
                    rw [← hY]
                    clear hY c0 c1 c2
                    go_upto_region 18 with fail
                    rw [← hD]
                    clear hD m0 m1 hl1 hl2 HIY
                    obtain ⟨⟨q0, q1⟩, hql⟩ := HC.out D (HA3.out.trans HID.out.1.2.1)
                    have me : D.cell? ⟨Y.heap.size, 0, none⟩ = some (.int .i64 ai) ∧ D.cell? ⟨Y.heap.size, 1, none⟩ = some (.int .i64 bi) ∧ D.cell? ⟨Y.heap.size, 2, none⟩ = some (.int .i64 ((kd : Int) + 1)) ∧ D.cell? ⟨Y.heap.size, 3, none⟩ = some (.int .i64 kk) := by have e := HID.out.2; simp [World.cell?, e]
                    obtain ⟨m0, m1, m2, m3⟩ := me
                    have hl1 := heap_lt HID.out.2
                    go_wp2_with fail
                    refine (HCN.out D (HA3.out.trans HID.out.1.2.1) ⟨ai, bi, (kd : Int) + 1, kk⟩).mono ?_
                    rintro e w7 ⟨rfl, ha7⟩
                    have HI7 : Hid (EI w3 wA.heap.size (.cells #[.int .i64 ai, .bool ad, .slice asp an asc] 42) L4 vo w7 ∧ w7.heap[Y.heap.size]? = some (.cells #[.int .i64 ai, .int .i64 bi, .int .i64 ((kd : Int) + 1), .int .i64 kk] 27)) := Lib.hid ⟨HID.out.1.after ha7, (ha7.block _ (heap_lt HID.out.2)).trans HID.out.2⟩
                    clear ha7 HID q0 q1 hql m0 m1 m2 m3 hl1
                    unfold one1 at HTB
                    dsimp only at HTB
                    generalize refC h ⟨ai, bi, (kd : Int) + 1, kk⟩ = rc at HTB ⊢
                    by_cases hrc : 0 < rc
                    · have hgt1 : decide ((0 : Int) < (rc : Int)) = true := decide_eq_true (by omega)
                      have hgt2 : decide (0 < rc) = true := decide_eq_true hrc
                      have HTB : Hid (L3 ++ segB h ai ((kd : Int) + 1) kk (h.txs.take (m + 1)) = L4 ++ [⟨ai, bi, (kd : Int) + 1, kk, (rc : Int)⟩]) := Lib.hid (by rw [HTB.out, if_pos hrc])
                      clear hrc
                      have me : w7.cell? ⟨Y.heap.size, 0, none⟩ = some (.int .i64 ai) ∧ w7.cell? ⟨Y.heap.size, 1, none⟩ = some (.int .i64 bi) ∧ w7.cell? ⟨Y.heap.size, 2, none⟩ = some (.int .i64 ((kd : Int) + 1)) ∧ w7.cell? ⟨Y.heap.size, 3, none⟩ = some (.int .i64 kk) := by have e := HI7.out.2; simp [World.cell?, e]
                      obtain ⟨m0, m1, m2, m3⟩ := me
                      have hl1 := heap_lt HI7.out.2
                      go_wp2_with (at_builtin; refine append_hvys rfl (.tmp 55) (.tmp 59) rfl (B := w3.heap.size) (by have := HI7.out.1.2.1.size; simp only [World.size_alloc]; omega) (HI7.out.1.1.below (Aft.one _)) rfl (hvy_lit ⟨ai, bi, (kd : Int) + 1, kk, (rc : Int)⟩ w7) rfl (by have := HL4.out; simp only [List.length_cons, List.length_nil]; omega) ?_; intro v5 w5 h5 hg5 _; have HR : Hid (EI w3 wA.heap.size (.cells #[.int .i64 ai, .bool ad, .slice asp an asc] 42) (L3 ++ segB h ai ((kd : Int) + 1) kk (h.txs.take (m + 1))) v5 w5) := Lib.hid (by rw [HTB.out]; exact HI7.out.1.app (by decide) _ h5 hg5); clear h5 hg5)
                      go_roundw
                      case rel => exact ⟨m + 1, by go_num, by omega, _, rfl, HR⟩
                      case measure => simp [intOf]; omega
                    · obtain rfl : rc = 0 := by omega
                      have HR : Hid (EI w3 wA.heap.size (.cells #[.int .i64 ai, .bool ad, .slice asp an asc] 42) (L3 ++ segB h ai ((kd : Int) + 1) kk (h.txs.take (m + 1))) vo w7) := Lib.hid (by rw [HTB.out]; simpa using HI7.out.1)
                      clear HTB HI7 hrc
                      go_wp2_with fail
                      go_roundw
                      case rel => exact ⟨m + 1, by go_num, by omega, _, rfl, HR⟩
                      case measure => simp [intOf]; omega
                  · have hme : m = n1 := by omega
                    have HR : Hid (EI w3 wA.heap.size (.cells #[.int .i64 ai, .bool ad, .slice asp an asc] 42) (L2 ++ segK h ai ((kd : Int) + 1) (ks.take (j + 1))) vo wB) := Lib.hid (by have := HW.out; rw [hme, HN1.out, List.take_length] at this; rw [HTK.out]; exact this)
                    clear HW hme
                    go_wp2_with fail
                    go_roundw
                    case rel => exact ⟨j + 1, by go_num, by omega, _, rfl, HR⟩
                    case measure => simp [intOf]; omega
              · have hje : j = kn := by omega
                have HR : Hid (EI w3 wA.heap.size (.cells #[.int .i64 ai, .bool ad, .slice asp an asc] 42) (L1 ++ segD h ai ks (kd + 1)) vo wr) := Lib.hid (by have := HW.out; rw [hje, HKN.out, List.take_length] at this; rw [HTD.out]; exact this)
                clear HW hje
                go_wp2_with fail
                go_roundw
                case rel => exact ⟨kd + 1, by first | rfl | rw [hwk] | simp [hwk], by omega, _, rfl, HR⟩
                case measure => simp [intOf]; omega
          · obtain rfl : kd = 3 := by omega
            have HR : Hid (OwnHvy w3.heap.size wr vo (segA h ks (h.txs.take (i + 1))) ∧ Aft w3 wr) := Lib.hid (by rw [HTA.out]; exact ⟨HW.out.1, HW.out.2.1⟩)
            clear HW hlt3 hkd
            go_wp2_with fail
            go_roundw
            case rel => exact ⟨i + 1, by go_num, by omega, _, rfl, HR⟩
            case measure => simp [intOf]; omega
      · have hie : i = n1 := by omega
        have HF : Hid (Post (.returned vo) wA) := Lib.hid (HE.out wA vo (HA3.out.trans HW.out.2) (by have := HW.out.1; rw [hie, HN1.out, List.take_length, ← HRS.out] at this; exact ownsRow_less this HA3.out.size))
        clear HW hie HE
        go_wp2_with fail
        exact HF.out
end Go.Proofs.YtcmafmdcgkpagaaGreat.Dg
namespace Go.Proofs.YtcmafmdcgkpagaaGreat.Dg
open Go.ChangeShapes Go.WideShapes Go.ChangeAt Go.RowKit Base F Tx Hi Off
section
variable {H : Type} {enc : TypeId × Value → H} {w : World}
set_option maxRecDepth 100000 in
theorem edg_flat : flatB Tryz.prog 8 27 = true := by kernel_rfl
theorem edg_cells : Tryz.prog.cellsOf 27 = 4 := by kernel_rfl
set_option maxRecDepth 100000 in
theorem open_edg {r : Reach} {b0 : Nat} {v : Value} {d : DataW H} {p : List MemPlace} {base : Nat} {spare : Nat → Bool} {held : Bool} (hv : Value.okWide Tryz.prog w r b0 27 v) (h : DataW.Trod enc Tryz.prog w base spare held 27 v d p) : ∃ x : Edg, Edg.ok x ∧ v = .agg #[.int .i64 x.f, .int .i64 x.t, .int .i64 x.kd, .int .i64 x.k] := by
  obtain ⟨G, hG, hv'⟩ := open_flat1 Tryz.underlying27 edg_flat hv h
  rw [edg_cells] at hv'
  exact ⟨⟨G 0, G 1, G 2, G 3⟩, ⟨hG 0, hG 1, hG 2, hG 3⟩, hv'⟩
end
theorem light_smT {h : Hist} (ht : ∀ t ∈ h.txs, Txn.ok t) (ho : ∀ o ∈ h.ords, Ordr.ok o) (hl : lightB h = true) : HistSm h ∧ h.ords.length ≤ 24 ∧ h.txs.length ≤ 12 ∧ ∀ t ∈ h.txs, t.ops.length ≤ 24 := by
  obtain ⟨h1, h2, h3, h4⟩ := (lightB_iff h).1 hl
  exact ⟨⟨ht, ho, by omega, fun t hm => by have := h3 t hm; omega, fun o hm => by have := h4 o hm; omega⟩, h2, h1, h3⟩
set_option maxRecDepth 100000 in
set_option maxHeartbeats 16000000 in
theorem tells {v u : Value} {h : Hist} (w : World) (hh : HistV w v u h) (ht : ∀ t ∈ h.txs, Txn.ok t) (ho : ∀ o ∈ h.ords, Ordr.ok o) (key : Int) (e : Edg) (hek : Edg.ok e) :
    Calls Tryz.prog 3 #[.agg #[v, u], .int .i64 key, .agg #[.int .i64 e.f, .int .i64 e.t, .int .i64 e.kd, .int .i64 e.k]] w (LivesP w) := by
  obtain ⟨p, c, hv, _⟩ := hh.1.form
  obtain ⟨q, d, hu, _⟩ := hh.2.form
  subst hv hu
  obtain ⟨x0, x1, x2, x3⟩ := e
  dsimp only
  have HEK := Lib.hid hek
  have HSM := Lib.hid (fun e : lightB h = true => light_smT ht ho e)
  have HH := Lib.hid hh
  obtain ⟨n1, hn1⟩ : ∃ n, n = h.txs.length := ⟨_, rfl⟩
  obtain ⟨n2, hn2⟩ : ∃ n, n = h.ords.length := ⟨_, rfl⟩
  rw [← hn1, ← hn2] at HH
  rw [← hn1, ← hn2]
  clear hh ht ho hn1 hn2 hek
  obtain ⟨X, hX⟩ : ∃ X, X = (w.alloc (.cells #[.slice p n1 c, .slice q n2 d] 25)).alloc (.cells #[.int .i64 x0, .int .i64 x1, .int .i64 x2, .int .i64 x3] 27) := ⟨_, rfl⟩
  have HA : Hid (Aft w X) := Lib.hid (by rw [hX]; exact (Aft.one _).lay _)
  have HC : Hid (∀ Z, Aft X Z → (Z.cell? ⟨w.heap.size, 0, none⟩ = some (.slice p n1 c) ∧ Z.cell? ⟨w.heap.size, 1, none⟩ = some (.slice q n2 d)) ∧ Z.cell? ⟨w.heap.size + 1, 0, none⟩ = some (.int .i64 x0) ∧ Z.cell? ⟨w.heap.size + 1, 1, none⟩ = some (.int .i64 x1) ∧ Z.cell? ⟨w.heap.size + 1, 2, none⟩ = some (.int .i64 x2) ∧ Z.cell? ⟨w.heap.size + 1, 3, none⟩ = some (.int .i64 x3)) := Lib.hid fun Z hZ => by
    have e0 : X.heap[w.heap.size]? = some (.cells #[.slice p n1 c, .slice q n2 d] 25) := by rw [hX]; exact heap_alloc_lt _ _ _ _ (heap_alloc_at _ _ _ rfl)
    have e1 : X.heap[w.heap.size + 1]? = some (.cells #[.int .i64 x0, .int .i64 x1, .int .i64 x2, .int .i64 x3] 27) := by rw [hX]; exact heap_alloc_at _ _ _ (by simp)
    have k0 := (hZ.block _ (heap_lt e0)).trans e0
    have k1 := (hZ.block _ (heap_lt e1)).trans e1
    simp [World.cell?, k0, k1]
  have HXS : Hid (∀ Z, Aft X Z → w.heap.size + 1 < Z.heap.size) := Lib.hid fun Z hZ => Nat.lt_of_lt_of_le (by rw [hX]; simp) hZ.size
  have HV : Hid (∀ W, Aft X W → HistV W (.slice p n1 c) (.slice q n2 d) h) := Lib.hid fun W hW => HH.out.below (HA.out.trans hW)
  have HL : Hid (∀ W, Aft X W → Calls Tryz.prog 4 #[.agg #[.slice p n1 c, .slice q n2 d]] W (BoolNew (lightB h) W)) := Lib.hid fun W hW => rlight_any W (HV.out W hW)
  have HE : Hid (∀ W, Aft X W → LivesP w (.returned (.bool true)) W) := Lib.hid fun W hW => ⟨rfl, HA.out.trans hW⟩
  generalize LivesP w = Post at HE ⊢
  generalize lightB h = lb at HSM HL
  obtain ⟨⟨c0, c1⟩, d0, d1, d2, d3⟩ := HC.out X (Aft.refl _)
  have hxs := HXS.out X (Aft.refl _)
  go_enter Tryz.func3, Tryz.ntmps3
  go_upto_region 1 with fail
  rw [← hX]
  clear hX HH
  go_wp2_with fail
  refine (HL.out X (Aft.refl _)).mono ?_
  rintro e w1 ⟨rfl, ha⟩
  have HA1 := Lib.hid ha
  clear ha c0 c1 d0 d1 d2 d3 hxs
  cases lb with
  | false =>
    clear HSM HL HC HV
    go_wp2_with fail
    refine (lives w1).mono ?_
    rintro e w2 ⟨rfl, ha⟩
    have HF := Lib.hid (HE.out w2 (HA1.out.trans ha))
    clear ha HE HA1
    go_wp2_with fail
    exact HF.out
  | true =>
    have HS := Lib.hid (HSM.out rfl)
    clear HSM HL
    obtain ⟨⟨c0, c1⟩, d0, d1, d2, d3⟩ := HC.out w1 HA1.out
    have hxs := HXS.out w1 HA1.out
    obtain ⟨rl, hrl⟩ : ∃ l, l = refL h := ⟨_, rfl⟩
    have HRL : Hid (Lists (cntE h fun _ => true) rl) := Lib.hid (by rw [hrl]; exact refL_lists h)
    have HRLN : Hid (rl.length ≤ 1000000) := Lib.hid (by
      rw [hrl]
      unfold refL
      split
      · have h1 := keysL_len (h.txs.flatMap fun t => t.ops.map Opr.k)
        have h2 := flat_len (fun t : Txn => t.ops.map Opr.k) 24 h.txs (fun t ht => by rw [List.length_map]; exact HS.out.2.2.2 t ht)
        have h3 : (keysA h).length ≤ 288 := by have := HS.out.2.2.1; unfold keysA; omega
        have h4 := segA_len h (keysA h) h.txs 12 288 HS.out.2.2.1 h3
        have := HS.out.2.2.1
        omega
      · simp)
    have HRE : Hid (∀ W, Aft X W → Calls Tryz.prog 6 #[.agg #[.slice p n1 c, .slice q n2 d]] W (HvL rl W)) := Lib.hid fun W hW => by rw [hrl]; exact redges_any W (HV.out W hW) HS.out.1 HS.out.2.2.1 HS.out.2.2.2
    have HED : Hid (∀ W, Aft X W → Calls Tryz.prog 8 #[.agg #[.slice p n1 c, .slice q n2 d]] W (fun e w' => ∃ v, e = .returned v ∧ Hvys 0 w' v rl ∧ Aft W w')) := Lib.hid fun W hW => ret_list (edges_any W (HV.out W hW) HS.out.1 (by have := HS.out.2.1; omega)) HRL.out (Nat.le_refl _)
    have HOF : Hid (∀ W, Aft X W → Calls Tryz.prog 9 #[.agg #[.slice p n1 c, .slice q n2 d], .int .i64 key] W (fun e w' => ∃ v, e = .returned v ∧ Hvys 0 w' v (rl.filter fun x => x.k == key) ∧ Aft W w')) := Lib.hid fun W hW => (of_any W (HV.out W hW) HS.out.1 (by have := HS.out.2.1; omega) key).mono fun e w' ⟨v, l', he, h1, h2, h3, h4⟩ => ⟨v, he, by rw [← HRL.out.key h1]; exact (h3.list (by omega)).mono (Nat.zero_le _), h4⟩
    have HRO : Hid (∀ W v1, Hvys 0 W v1 rl → Calls Tryz.prog 10 #[v1, .int .i64 key] W (fun e w' => ∃ v, e = .returned v ∧ Hvys 0 w' v (rl.filter fun x => x.k == key) ∧ Aft W w')) := Lib.hid fun W v1 hv => (rof_any key W hv HRLN.out).mono fun e w' ⟨v, he, h1, h2⟩ => ⟨v, he, (h1.list (by have := HRLN.out; have := List.length_filter_le (fun x : Hvy => x.k == key) rl; omega)).mono (Nat.zero_le _), h2⟩
    have HCT : Hid (∀ W, Aft X W → Calls Tryz.prog 11 #[.agg #[.slice p n1 c, .slice q n2 d], .agg #[.int .i64 x0, .int .i64 x1, .int .i64 x2, .int .i64 x3]] W (IntNew ((cntE h (fun _ => true) ⟨x0, x1, x2, x3⟩ : Nat) : Int) W)) := Lib.hid fun W hW => by
      have := Count_any W (HV.out W hW) HS.out.1 ⟨x0, x1, x2, x3⟩ HEK.out
      rw [cnt_key, if_pos rfl] at this
      exact this
    have HRC : Hid (∀ W, Aft X W → Calls Tryz.prog 12 #[.agg #[.slice p n1 c, .slice q n2 d], .agg #[.int .i64 x0, .int .i64 x1, .int .i64 x2, .int .i64 x3]] W (IntNew ((cntE h (fun _ => true) ⟨x0, x1, x2, x3⟩ : Nat) : Int) W)) := Lib.hid fun W hW => rCount_any W (HV.out W hW) HS.out.1 ⟨x0, x1, x2, x3⟩
    have HPL : Hid (∀ W v1, Hvys 0 W v1 rl → Calls Tryz.prog 14 #[v1] W (fun e w' => ∃ v, e = .returned v ∧ Pk.Eds w' v (rl.map fun x => toE (edH x)) ∧ Aft W w')) := Lib.hid fun W v1 hv => (plain_any W hv HRLN.out).mono fun e w' ⟨v, he, h1, h2⟩ => ⟨v, he, h1.eds (by rw [List.length_map]; have := HRLN.out; omega), h2⟩
    have HRP : Hid (∀ W v1, Hvys 0 W v1 rl → Calls Tryz.prog 15 #[v1] W (fun e w' => ∃ v, e = .returned v ∧ Pk.Eds w' v (rl.map fun x => toE (edH x)) ∧ Aft W w')) := Lib.hid fun W v1 hv => (rplain_any W hv HRLN.out).mono fun e w' ⟨v, he, h1, h2⟩ => ⟨v, he, h1.eds (by rw [List.length_map]; have := HRLN.out; omega), h2⟩
    generalize ((cntE h (fun _ => true) ⟨x0, x1, x2, x3⟩ : Nat) : Int) = cv at HCT HRC
    clear hrl HRL HEK
    go_wp2_with fail
    refine (HRE.out w1 HA1.out).mono ?_
    rintro e w2 ⟨vr, rfl, hr, ha⟩
    have HA2 := Lib.hid (HA1.out.trans ha)
    have HLR0 : Hid (Hvys 0 w2 vr rl) := Lib.hid ((hr.list (by have := HRLN.out; omega)).mono (Nat.zero_le _))
    clear hr ha HRE c0 c1 d0 d1 d2 d3 hxs
    obtain ⟨rp, rc, hvr, _⟩ := HLR0.out.open_
    subst hvr
    generalize rl.length = rn at *
    go_upto_region 4 with fail
    obtain ⟨W0, hW0⟩ : ∃ W, W = w2.drew := ⟨_, rfl⟩
    have HA4 : Hid (Aft X W0) := Lib.hid (by rw [hW0]; exact HA2.out.drew 1)
    have B0 : Hid (Aft W0 W0) := Lib.hid (Aft.refl _)
    have HLR : Hid (∀ W, Aft W0 W → Hvys 0 W (.slice rp rn rc) rl) := Lib.hid fun W hW => HLR0.out.below ((show Aft w2 W0 from by rw [hW0]; exact (Aft.refl _).drew 1).trans hW)
    refine wp_region_held_drew (S := fun Z => (Z.cell? ⟨w.heap.size, 0, none⟩ = some (.slice p n1 c) ∧ Z.cell? ⟨w.heap.size, 1, none⟩ = some (.slice q n2 d)) ∧ Z.cell? ⟨w.heap.size + 1, 0, none⟩ = some (.int .i64 x0) ∧ Z.cell? ⟨w.heap.size + 1, 1, none⟩ = some (.int .i64 x1) ∧ Z.cell? ⟨w.heap.size + 1, 2, none⟩ = some (.int .i64 x2) ∧ Z.cell? ⟨w.heap.size + 1, 3, none⟩ = some (.int .i64 x3)) (by kernel_rfl) (hW0 ▸ HC.out _ HA4.out) (fun hHeld0 => ?_)
    rw [← hW0] at hHeld0 ⊢
    clear hW0 HLR0 HA2
    refine wpAnyH_take (i := 0) (v := ?_) rfl (by kernel_rfl) (by kernel_rfl) (by kernel_rfl) (fun _ _ _ h => h) (Or.inl ⟨by rfl, ?yt0⟩) (by assumption) ?qt0
    case yt0 => (intro wz hSw; (try dsimp only at hSw); go_simp <;> with_reducible rfl)
    try simp only [Act.put, List.getElem_toArray, List.getElem_cons_zero, List.setIfInBounds_toArray, List.set_cons_zero, List.set_cons_succ]
    refine wpAnyH_take (i := 2) (v := ?_) rfl (by kernel_rfl) (by kernel_rfl) (by kernel_rfl) (fun _ _ _ h => h) (Or.inl ⟨by rfl, ?yt2⟩) (by assumption) ?qt2
    case yt2 => (intro wz hSw; (try dsimp only at hSw); go_simp <;> with_reducible rfl)
    try simp only [Act.put, List.getElem_toArray, List.getElem_cons_zero, List.getElem_cons_succ, List.setIfInBounds_toArray, List.set_cons_zero, List.set_cons_succ]
    refine wpAnyH_ready (rs := [1]) (by kernel_rfl) (by simp) ?_
    refine AllReadyH.cons rfl (fun K hK => ?_) AllReadyH.nil
    go_simp
    refine (HED.out W0 HA4.out).mono ?_
    rintro e u1 ⟨v1, rfl, hx, hb⟩
    have F1 := Lib.hid hx
    have G1 := Lib.hid hb
    have B1 : Hid (Aft W0 u1) := Lib.hid (B0.out.trans hb)
    clear hb hx
    refine hK.out _ _ (HC.out _ (HA4.out.trans B1.out)) (fun hHeldt1 => ?_)
    clear hK K
    try simp only [Act.put, List.getElem_toArray, List.getElem_cons_zero, List.getElem_cons_succ, List.setIfInBounds_toArray, List.set_cons_zero, List.set_cons_succ]
    refine wpAnyH_ready (rs := [3]) (by kernel_rfl) (by simp) ?_
    refine AllReadyH.cons rfl (fun K hK => ?_) AllReadyH.nil
    go_simp
    refine (k_same F1.out (HLR.out _ B1.out)).mono ?_
    rintro e u3 ⟨rfl, hb⟩
    have G3 := Lib.hid hb
    have B3 : Hid (Aft W0 u3) := Lib.hid (B1.out.trans hb)
    clear hb
    refine hK.out _ _ (HC.out _ (HA4.out.trans B3.out)) (fun hHeldt3 => ?_)
    clear hK K
    try simp only [Act.put, List.getElem_toArray, List.getElem_cons_zero, List.getElem_cons_succ, List.setIfInBounds_toArray, List.set_cons_zero, List.set_cons_succ]
    refine wpAnyH_take (i := 4) (v := ?_) rfl (by kernel_rfl) (by kernel_rfl) (by kernel_rfl) (fun _ _ _ h => h) (Or.inl ⟨by rfl, ?yt4⟩) (by assumption) ?qt4
    case yt4 => (intro wz hSw; (try dsimp only at hSw); go_simp <;> with_reducible rfl)
    try simp only [Act.put, List.getElem_toArray, List.getElem_cons_zero, List.getElem_cons_succ, List.setIfInBounds_toArray, List.set_cons_zero, List.set_cons_succ]
    refine wpAnyH_take (i := 5) (v := ?_) rfl (by kernel_rfl) (by kernel_rfl) (by kernel_rfl) (fun _ _ _ h => h) (Or.inl ⟨by rfl, ?yt5⟩) (by assumption) ?qt5
    case yt5 => (intro wz hSw; (try dsimp only at hSw); go_simp <;> with_reducible rfl)
    try simp only [Act.put, List.getElem_toArray, List.getElem_cons_zero, List.getElem_cons_succ, List.setIfInBounds_toArray, List.set_cons_zero, List.set_cons_succ]
    refine wpAnyH_take (i := 6) (v := ?_) rfl (by kernel_rfl) (by kernel_rfl) (by kernel_rfl) (fun _ _ _ h => h) (Or.inl ⟨by rfl, ?yt6⟩) (by assumption) ?qt6
    case yt6 => (intro wz hSw; (try dsimp only at hSw); go_simp <;> with_reducible rfl)
    try simp only [Act.put, List.getElem_toArray, List.getElem_cons_zero, List.getElem_cons_succ, List.setIfInBounds_toArray, List.set_cons_zero, List.set_cons_succ]
    refine wpAnyH_take (i := 8) (v := ?_) rfl (by kernel_rfl) (by kernel_rfl) (by kernel_rfl) (fun _ _ _ h => h) (Or.inl ⟨by rfl, ?yt8⟩) (by assumption) ?qt8
    case yt8 => (intro wz hSw; (try dsimp only at hSw); go_simp <;> with_reducible rfl)
    try simp only [Act.put, List.getElem_toArray, List.getElem_cons_zero, List.getElem_cons_succ, List.setIfInBounds_toArray, List.set_cons_zero, List.set_cons_succ]
    refine wpAnyH_take (i := 9) (v := ?_) rfl (by kernel_rfl) (by kernel_rfl) (by kernel_rfl) (fun _ _ _ h => h) (Or.inl ⟨by rfl, ?yt9⟩) (by assumption) ?qt9
    case yt9 => (intro wz hSw; (try dsimp only at hSw); go_simp <;> with_reducible rfl)
    try simp only [Act.put, List.getElem_toArray, List.getElem_cons_zero, List.getElem_cons_succ, List.setIfInBounds_toArray, List.set_cons_zero, List.set_cons_succ]
    refine wpAnyH_ready (rs := [7]) (by kernel_rfl) (by simp) ?_
    refine AllReadyH.cons rfl (fun K hK => ?_) AllReadyH.nil
    go_simp
    refine (HOF.out u3 (HA4.out.trans B3.out)).mono ?_
    rintro e u7 ⟨v7, rfl, hx, hb⟩
    have F7 := Lib.hid hx
    have G7 := Lib.hid hb
    have B7 : Hid (Aft W0 u7) := Lib.hid (B3.out.trans hb)
    clear hb hx
    refine hK.out _ _ (HC.out _ (HA4.out.trans B7.out)) (fun hHeldt7 => ?_)
    clear hK K
    try simp only [Act.put, List.getElem_toArray, List.getElem_cons_zero, List.getElem_cons_succ, List.setIfInBounds_toArray, List.set_cons_zero, List.set_cons_succ]
    refine wpAnyH_ready (rs := [10]) (by kernel_rfl) (by simp) ?_
    refine AllReadyH.cons rfl (fun K hK => ?_) AllReadyH.nil
    go_simp
    refine (HRO.out _ _ (HLR.out _ B7.out)).mono ?_
    rintro e u10 ⟨v10, rfl, hx, hb⟩
    have F10 := Lib.hid hx
    have G10 := Lib.hid hb
    have B10 : Hid (Aft W0 u10) := Lib.hid (B7.out.trans hb)
    clear hb hx
    refine hK.out _ _ (HC.out _ (HA4.out.trans B10.out)) (fun hHeldt10 => ?_)
    clear hK K
    try simp only [Act.put, List.getElem_toArray, List.getElem_cons_zero, List.getElem_cons_succ, List.setIfInBounds_toArray, List.set_cons_zero, List.set_cons_succ]
    refine wpAnyH_ready (rs := [11]) (by kernel_rfl) (by simp) ?_
    refine AllReadyH.cons rfl (fun K hK => ?_) AllReadyH.nil
    go_simp
    refine (k_same (F7.out.below G10.out) F10.out).mono ?_
    rintro e u11 ⟨rfl, hb⟩
    have G11 := Lib.hid hb
    have B11 : Hid (Aft W0 u11) := Lib.hid (B10.out.trans hb)
    clear hb
    refine hK.out _ _ (HC.out _ (HA4.out.trans B11.out)) (fun hHeldt11 => ?_)
    clear hK K
    try simp only [Act.put, List.getElem_toArray, List.getElem_cons_zero, List.getElem_cons_succ, List.setIfInBounds_toArray, List.set_cons_zero, List.set_cons_succ]
    refine wpAnyH_take (i := 12) (v := ?_) rfl (by kernel_rfl) (by kernel_rfl) (by kernel_rfl) (fun _ _ _ h => h) (Or.inl ⟨by rfl, ?yt12⟩) (by assumption) ?qt12
    case yt12 => (intro wz hSw; (try dsimp only at hSw); go_simp <;> with_reducible rfl)
    try simp only [Act.put, List.getElem_toArray, List.getElem_cons_zero, List.getElem_cons_succ, List.setIfInBounds_toArray, List.set_cons_zero, List.set_cons_succ]
    refine wpAnyH_take (i := 13) (v := ?_) rfl (by kernel_rfl) (by kernel_rfl) (by kernel_rfl) (fun _ _ _ h => h) (Or.inl ⟨by rfl, ?yt13⟩) (by assumption) ?qt13
    case yt13 => (intro wz hSw; (try dsimp only at hSw); go_simp <;> with_reducible rfl)
    try simp only [Act.put, List.getElem_toArray, List.getElem_cons_zero, List.getElem_cons_succ, List.setIfInBounds_toArray, List.set_cons_zero, List.set_cons_succ]
    refine wpAnyH_take (i := 14) (v := ?_) rfl (by kernel_rfl) (by kernel_rfl) (by kernel_rfl) (fun _ _ _ h => h) (Or.inl ⟨by rfl, ?yt14⟩) (by assumption) ?qt14
    case yt14 => (intro wz hSw; (try dsimp only at hSw); go_simp <;> with_reducible rfl)
    try simp only [Act.put, List.getElem_toArray, List.getElem_cons_zero, List.getElem_cons_succ, List.setIfInBounds_toArray, List.set_cons_zero, List.set_cons_succ]
    refine wpAnyH_take (i := 15) (v := ?_) rfl (by kernel_rfl) (by kernel_rfl) (by kernel_rfl) (fun _ _ _ h => h) (Or.inl ⟨by rfl, ?yt15⟩) (by assumption) ?qt15
    case yt15 => (intro wz hSw; (try dsimp only at hSw); go_simp <;> with_reducible rfl)
    try simp only [Act.put, List.getElem_toArray, List.getElem_cons_zero, List.getElem_cons_succ, List.setIfInBounds_toArray, List.set_cons_zero, List.set_cons_succ]
    refine wpAnyH_take (i := 17) (v := ?_) rfl (by kernel_rfl) (by kernel_rfl) (by kernel_rfl) (fun _ _ _ h => h) (Or.inl ⟨by rfl, ?yt17⟩) (by assumption) ?qt17
    case yt17 => (intro wz hSw; (try dsimp only at hSw); go_simp <;> with_reducible rfl)
    try simp only [Act.put, List.getElem_toArray, List.getElem_cons_zero, List.getElem_cons_succ, List.setIfInBounds_toArray, List.set_cons_zero, List.set_cons_succ]
    refine wpAnyH_take (i := 18) (v := ?_) rfl (by kernel_rfl) (by kernel_rfl) (by kernel_rfl) (fun _ _ _ h => h) (Or.inl ⟨by rfl, ?yt18⟩) (by assumption) ?qt18
    case yt18 => (intro wz hSw; (try dsimp only at hSw); go_simp <;> with_reducible rfl)
    try simp only [Act.put, List.getElem_toArray, List.getElem_cons_zero, List.getElem_cons_succ, List.setIfInBounds_toArray, List.set_cons_zero, List.set_cons_succ]
    refine wpAnyH_ready (rs := [16]) (by kernel_rfl) (by simp) ?_
    refine AllReadyH.cons rfl (fun K hK => ?_) AllReadyH.nil
    go_simp
    refine (HCT.out u11 (HA4.out.trans B11.out)).mono ?_
    rintro e u16 ⟨rfl, hb⟩
    have G16 := Lib.hid hb
    have B16 : Hid (Aft W0 u16) := Lib.hid (B11.out.trans hb)
    clear hb
    refine hK.out _ _ (HC.out _ (HA4.out.trans B16.out)) (fun hHeldt16 => ?_)
    clear hK K
    try simp only [Act.put, List.getElem_toArray, List.getElem_cons_zero, List.getElem_cons_succ, List.setIfInBounds_toArray, List.set_cons_zero, List.set_cons_succ]
    refine wpAnyH_ready (rs := [19]) (by kernel_rfl) (by simp) ?_
    refine AllReadyH.cons rfl (fun K hK => ?_) AllReadyH.nil
    go_simp
    refine (HRC.out u16 (HA4.out.trans B16.out)).mono ?_
    rintro e u19 ⟨rfl, hb⟩
    have G19 := Lib.hid hb
    have B19 : Hid (Aft W0 u19) := Lib.hid (B16.out.trans hb)
    clear hb
    refine hK.out _ _ (HC.out _ (HA4.out.trans B19.out)) (fun hHeldt19 => ?_)
    clear hK K
    try simp only [Act.put, List.getElem_toArray, List.getElem_cons_zero, List.getElem_cons_succ, List.setIfInBounds_toArray, List.set_cons_zero, List.set_cons_succ]
    refine wpAnyH_take (i := 20) (v := ?_) rfl (by kernel_rfl) (by kernel_rfl) (by kernel_rfl) (fun _ _ _ h => h) (Or.inl ⟨by rfl, ?yt20⟩) (by assumption) ?qt20
    case yt20 => (intro wz hSw; (try dsimp only at hSw); go_simp <;> with_reducible rfl)
    try simp only [Act.put, List.getElem_toArray, List.getElem_cons_zero, List.getElem_cons_succ, List.setIfInBounds_toArray, List.set_cons_zero, List.set_cons_succ]
    refine wpAnyH_take (i := 21) (v := ?_) rfl (by kernel_rfl) (by kernel_rfl) (by kernel_rfl) (fun _ _ _ h => h) (Or.inl ⟨by rfl, ?yt21⟩) (by assumption) ?qt21
    case yt21 => (intro wz hSw; (try dsimp only at hSw); go_simp <;> with_reducible rfl)
    try simp only [Act.put, List.getElem_toArray, List.getElem_cons_zero, List.getElem_cons_succ, List.setIfInBounds_toArray, List.set_cons_zero, List.set_cons_succ]
    refine wpAnyH_take (i := 22) (v := ?_) rfl (by kernel_rfl) (by kernel_rfl) (by kernel_rfl) (fun _ _ _ h => h) (Or.inl ⟨by rfl, ?yt22⟩) (by assumption) ?qt22
    case yt22 => (intro wz hSw; (try dsimp only at hSw); go_simp <;> with_reducible rfl)
    try simp only [Act.put, List.getElem_toArray, List.getElem_cons_zero, List.getElem_cons_succ, List.setIfInBounds_toArray, List.set_cons_zero, List.set_cons_succ]
    refine wpAnyH_take (i := 23) (v := ?_) rfl (by kernel_rfl) (by kernel_rfl) (by kernel_rfl) (fun _ _ _ h => h) (Or.inl ⟨by rfl, ?yt23⟩) (by assumption) ?qt23
    case yt23 => (intro wz hSw; (try dsimp only at hSw); go_simp <;> with_reducible rfl)
    try simp only [Act.put, List.getElem_toArray, List.getElem_cons_zero, List.getElem_cons_succ, List.setIfInBounds_toArray, List.set_cons_zero, List.set_cons_succ]
    refine wpAnyH_take (i := 25) (v := ?_) rfl (by kernel_rfl) (by kernel_rfl) (by kernel_rfl) (fun _ _ _ h => h) (Or.inl ⟨by rfl, ?yt25⟩) (by assumption) ?qt25
    case yt25 => (intro wz hSw; (try dsimp only at hSw); go_simp <;> with_reducible rfl)
    try simp only [Act.put, List.getElem_toArray, List.getElem_cons_zero, List.getElem_cons_succ, List.setIfInBounds_toArray, List.set_cons_zero, List.set_cons_succ]
    refine wpAnyH_ready (rs := [24]) (by kernel_rfl) (by simp) ?_
    refine AllReadyH.cons rfl (fun K hK => ?_) AllReadyH.nil
    go_simp
    refine (HPL.out _ _ (HLR.out _ B19.out)).mono ?_
    rintro e u24 ⟨v24, rfl, hx, hb⟩
    have F24 := Lib.hid hx
    have G24 := Lib.hid hb
    have B24 : Hid (Aft W0 u24) := Lib.hid (B19.out.trans hb)
    clear hb hx
    refine hK.out _ _ (HC.out _ (HA4.out.trans B24.out)) (fun hHeldt24 => ?_)
    clear hK K
    try simp only [Act.put, List.getElem_toArray, List.getElem_cons_zero, List.getElem_cons_succ, List.setIfInBounds_toArray, List.set_cons_zero, List.set_cons_succ]
    refine wpAnyH_ready (rs := [26]) (by kernel_rfl) (by simp) ?_
    refine AllReadyH.cons rfl (fun K hK => ?_) AllReadyH.nil
    go_simp
    refine (HRP.out _ _ (HLR.out _ B24.out)).mono ?_
    rintro e u26 ⟨v26, rfl, hx, hb⟩
    have F26 := Lib.hid hx
    have G26 := Lib.hid hb
    have B26 : Hid (Aft W0 u26) := Lib.hid (B24.out.trans hb)
    clear hb hx
    refine hK.out _ _ (HC.out _ (HA4.out.trans B26.out)) (fun hHeldt26 => ?_)
    clear hK K
    try simp only [Act.put, List.getElem_toArray, List.getElem_cons_zero, List.getElem_cons_succ, List.setIfInBounds_toArray, List.set_cons_zero, List.set_cons_succ]
    refine wpAnyH_ready (rs := [27]) (by kernel_rfl) (by simp) ?_
    refine AllReadyH.cons rfl (fun K hK => ?_) AllReadyH.nil
    go_simp
    refine (k_sameE (F24.out.below G26.out) F26.out).mono ?_
    rintro e u27 ⟨rfl, hb⟩
    have G27 := Lib.hid hb
    have B27 : Hid (Aft W0 u27) := Lib.hid (B26.out.trans hb)
    clear hb
    refine hK.out _ _ (HC.out _ (HA4.out.trans B27.out)) (fun hHeldt27 => ?_)
    clear hK K
    try simp only [Act.put, List.getElem_toArray, List.getElem_cons_zero, List.getElem_cons_succ, List.setIfInBounds_toArray, List.set_cons_zero, List.set_cons_succ]
    refine wpAnyH_take (i := 28) (v := ?_) rfl (by kernel_rfl) (by kernel_rfl) (by kernel_rfl) (fun _ _ _ h => h) (Or.inl ⟨by rfl, ?yt28⟩) (by assumption) ?qt28
    case yt28 => (intro wz hSw; (try dsimp only at hSw); go_simp <;> with_reducible rfl)
    try simp only [Act.put, List.getElem_toArray, List.getElem_cons_zero, List.getElem_cons_succ, List.setIfInBounds_toArray, List.set_cons_zero, List.set_cons_succ]
    refine wpAnyH_take (i := 29) (v := ?_) rfl (by kernel_rfl) (by kernel_rfl) (by kernel_rfl) (fun _ _ _ h => h) (Or.inl ⟨by rfl, ?yt29⟩) (by assumption) ?qt29
    case yt29 => (intro wz hSw; (try dsimp only at hSw); go_simp <;> with_reducible rfl)
    try simp only [Act.put, List.getElem_toArray, List.getElem_cons_zero, List.getElem_cons_succ, List.setIfInBounds_toArray, List.set_cons_zero, List.set_cons_succ]
    refine wpAnyH_ready (rs := [30]) (by kernel_rfl) (by simp) ?_
    refine AllReadyH.cons rfl (fun K hK => ?_) AllReadyH.nil
    go_simp
    refine (lives _).mono ?_
    rintro e u30 ⟨rfl, hb⟩
    have G30 := Lib.hid hb
    have B30 : Hid (Aft W0 u30) := Lib.hid (B27.out.trans hb)
    clear hb
    refine hK.out _ _ (HC.out _ (HA4.out.trans B30.out)) (fun hHeldt30 => ?_)
    clear hK K
    try simp only [Act.put, List.getElem_toArray, List.getElem_cons_zero, List.getElem_cons_succ, List.setIfInBounds_toArray, List.set_cons_zero, List.set_cons_succ]
    refine wpAnyH_take (i := 31) (v := ?_) rfl (by kernel_rfl) (by kernel_rfl) (by kernel_rfl) (fun _ _ _ h => h) (Or.inl ⟨by rfl, ?yt31⟩) (by assumption) ?qt31
    case yt31 => (intro wz hSw; (try dsimp only at hSw); go_simp <;> with_reducible rfl)
    try simp only [Act.put, List.getElem_toArray, List.getElem_cons_zero, List.getElem_cons_succ, List.setIfInBounds_toArray, List.set_cons_zero, List.set_cons_succ]
    refine wpAnyH_take (i := 32) (v := ?_) rfl (by kernel_rfl) (by kernel_rfl) (by kernel_rfl) (fun _ _ _ h => h) (Or.inl ⟨by rfl, ?yt32⟩) (by assumption) ?qt32
    case yt32 => (intro wz hSw; (try dsimp only at hSw); go_simp <;> with_reducible rfl)
    try simp only [Act.put, List.getElem_toArray, List.getElem_cons_zero, List.getElem_cons_succ, List.setIfInBounds_toArray, List.set_cons_zero, List.set_cons_succ]
    refine wpAnyH_done (by kernel_rfl) ?_ _
    have HF := Lib.hid (HE.out _ (HA4.out.trans B30.out))
    clear hHeld0 HC HV HE HLR HED HOF HRO HCT HRC HPL HRP
    go_wp2_with fail
    exact HF.out
end Go.Proofs.YtcmafmdcgkpagaaGreat.Dg
