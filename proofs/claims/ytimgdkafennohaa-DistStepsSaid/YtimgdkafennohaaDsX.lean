/-
  Shortest walks: the walk of DistSteps. Not a statement of the seat.
-/
import Derived.Test.YtimgdkafennohaaHead22
import Derived.Deep.RegionHeld3
namespace Go.Proofs.Ytimgdkafennohaa.Ds
open Go.ChangeShapes Go.WideShapes Go.ChangeAt Go.RowKit Base F Gr
/-- Whether one of the first so many is nearer by one. -/
def stB (st0 : Bool) (d : Nat → Option Nat) (du : Int) (vs : List Int) (j : Nat) : Bool := st0 || (vs.take j).any fun z => decide (stepI (d (2 * z.toNat)) = du - 1)
theorem stB_succ (st0 : Bool) {d : Nat → Option Nat} {du : Int} {vs : List Int} {j v : Nat} (hj : j < vs.length) (hz : vs.getD j 0 = (v : Int)) : stB st0 d du vs (j + 1) = (stB st0 d du vs j || decide (stepI (d (2 * v)) = du - 1)) := by
  unfold stB
  rw [List.take_succ_eq_append_getElem hj, List.any_append]
  have e : vs[j] = (v : Int) := by rw [← hz]; simp [List.getD_eq_getElem?_getD, hj]
  rw [e]
  simp [Bool.or_assoc]
theorem stB_true {d : Nat → Option Nat} {du : Int} {vs : List Int} {j : Nat} : stB true d du vs j = true := by simp [stB]
theorem stB_all {d : Nat → Option Nat} {du : Int} {vs : List Int} {z : Int} (hz : z ∈ vs) (hd : stepI (d (2 * z.toNat)) = du - 1) : stB false d du vs vs.length = true := by
  unfold stB
  rw [List.take_length, Bool.false_or, List.any_eq_true]
  exact ⟨z, hz, decide_eq_true hd⟩
set_option maxRecDepth 100000 in
set_option maxHeartbeats 32000000 in
theorem steps_any {v : Value} {l : List Arc} (n mask from_ to_ : Int) (hm : -9223372036854775808 ≤ mask ∧ mask ≤ 9223372036854775807) (w : World) (h : Arcs 0 w v l) : Calls Try.prog 3 #[.int .i64 n, v, .int .i64 mask, .int .i64 from_, .int .i64 to_] w (TruW w) := by
  have HL := Lib.hid (lives_any w)
  obtain ⟨p, c, rfl, hlm, hc⟩ := h.open_
  by_cases hn0 : n < 1
  · clear hc
    go_enter Try.func3, Try.ntmps3
    go_wp2_with fail
    refine HL.out.mono ?_
    rintro e w1 ⟨rfl, hb⟩
    have HB := Lib.hid hb
    clear hb HL
    go_wp2
    go_ret
    exact ⟨rfl, HB.out⟩
  by_cases hn30 : 30 < n
  · clear hc
    go_enter Try.func3, Try.ntmps3
    go_wp2_with fail
    refine HL.out.mono ?_
    rintro e w1 ⟨rfl, hb⟩
    have HB := Lib.hid hb
    clear hb HL
    go_wp2
    go_ret
    exact ⟨rfl, HB.out⟩
  by_cases hl1 : 100 < l.length
  · have hl2 : (100 : Int) < (l.length : Int) := by omega
    clear hc
    go_enter Try.func3, Try.ntmps3
    go_wp2_with fail
    refine HL.out.mono ?_
    rintro e w1 ⟨rfl, hb⟩
    have HB := Lib.hid hb
    clear hb HL
    go_wp2
    go_ret
    exact ⟨rfl, HB.out⟩
  obtain ⟨N, rfl⟩ := Int.eq_ofNat_of_zero_le (show 0 ≤ n by omega)
  have hN : 1 ≤ N ∧ N ≤ 30 := by omega
  have hl2 : ¬ ((100 : Int) < (l.length : Int)) := by omega
  have HLL : Hid (l.length ≤ 100) := Lib.hid (by omega)
  have HMS := Lib.hid hm
  have HM : Hid (∀ W, Below w.heap.size w W → Calls Try.prog 5 #[.int .i64 (N : Int), .slice p l.length c] W (MadeP W N (madeA N l))) := Lib.hid fun W hW => by
    have := made_any (N : Int) W (h.below hW) (by have := HLL.out; omega)
    rw [show roomL (N : Int) = N by unfold roomL; omega] at this
    exact this
  have HQL : Hid ((madeA N l).length ≤ 100) := Lib.hid (by
    have := madeA_len N l []
    have h2 := HLL.out
    unfold madeA
    simp at this
    omega)
  obtain ⟨q, hq⟩ : ∃ q, q = madeA N l := ⟨_, rfl⟩
  obtain ⟨ML, hML⟩ : ∃ ML, ML = l.length := ⟨_, rfl⟩
  rw [← hML] at hl2 HM ⊢
  rw [← hq] at HM HQL
  clear hc hlm hl1 hq hML h hm HLL
  go_enter Try.func3, Try.ntmps3
  go_wp2_with fail
  refine HL.out.mono ?_
  rintro e w1 ⟨rfl, hb⟩
  have HB1 := Lib.hid hb
  clear hb HL
  go_wp2_with fail
  refine (HM.out w1 HB1.out).mono ?_
  rintro e w2 ⟨b, nbs, rfl, hq, _, hb2⟩
  have HB2 := Lib.hid (hbt HB1.out hb2)
  have HQ := Lib.hid hq
  clear hq hb2 HM HB1
  go_wp2_with fail
  refine (to_any (w := w2) (n := N) (by omega) (fun W hW => nodes_q (HQ.out.below hW)) (pvOk_of HQ.out (by omega) (by have := HQL.out; omega)) mask to_ 0).mono ?_
  rintro e w3 ⟨lv, d, rfl, hd, ho, hb3⟩
  have HB3 := Lib.hid (hbt HB2.out hb3)
  have hi3 := ho.ints (by rw [ansL_len]; omega)
  obtain ⟨pz, cz, hlv, _, hcz⟩ := hi3.open_
  rw [ansL_len] at hlv hcz
  subst hlv
  obtain ⟨gz, oz, rfl, _⟩ := hcz 0 (by omega)
  have HZ : Hid (∀ X, Below w3.heap.size w3 X → ∀ u, u < N → gz < X.heap.size ∧ X.cell? ⟨gz, oz + u, none⟩ = some (.int .i64 (stepI (d (2 * u))))) := Lib.hid fun X hX u hu => by
    obtain ⟨g, o, h1, _, h2, h3⟩ := hcz u hu
    injection h1 with h1
    simp only [Addr.mk.injEq] at h1
    obtain ⟨rfl, rfl, _⟩ := h1
    rw [ansL_at hu] at h3
    exact ⟨Nat.lt_of_lt_of_le h2 hX.size, (hX.cell (p := ⟨gz, _, none⟩) h2).trans h3⟩
  have HD := Lib.hid hd
  have HBD : Hid (∀ x m, d x = some m → m ≤ 100000) := Lib.hid fun x m hx => by have := is_bound HD.out hx; omega
  have HIN : Hid (IsN N 0 (prN (ofA q mask)) to_ (fun v => d (2 * v))) := Lib.hid (by
    rw [pvP_zero q mask HMS.out] at hd
    exact IsN.of okP_iff hd)
  have HGQ : Hid (∀ X, Below w3.heap.size w3 X → GQ X w1.heap.size b N q nbs) := Lib.hid fun X hX => (HQ.out.below hb3).below hX
  have HRT := Lib.hid (ofA_right HQ.out.1 mask)
  have HLN : Hid ((ofA q mask).length ≤ 100) := Lib.hid (by have := ofA_len q mask; have := HQL.out; omega)
  have HNX : Hid (∀ X, Below w3.heap.size w3 X → ∀ u : Nat, Calls Try.prog 7 #[.pointer (some ⟨b, 0, none⟩), .int .i64 (u : Int), .int .i64 mask] X (NumsP X (sideO (ofA q mask) (u : Int) false))) := Lib.hid fun X hX u => next_q (HGQ.out X hX) (by omega) mask u
  have HWAY : Hid (∀ X, Below w3.heap.size w3 X → Calls Try.prog 8 #[.pointer (some ⟨b, 0, none⟩), .int .i64 mask, .int .i64 from_, .int .i64 to_, .int .i64 0] X (WayP X N q mask 0 from_ to_)) := Lib.hid fun X hX => way_any (HGQ.out X hX) (by omega) (by have := HQL.out; omega) mask HMS.out from_ to_ 0
  have HHAS : Hid (∀ X, Below w3.heap.size w3 X → ∀ a, a ∈ ofA q mask → Calls Try.prog 9 #[.pointer (some ⟨b, 0, none⟩), vA a] X (HeldP (.bool true) X)) := Lib.hid fun X hX a ha => by
    have := has_q (HGQ.out X hX) (by omega) a
    rw [decide_eq_true (List.mem_filter.1 ha).1] at this
    exact this
  have HST : Hid (∀ (u : Nat) (du : Int), (∀ k, d (2 * u) = some k → (k : Int) = du) → (d (2 * u) = none → ∀ x ∈ ofA q mask, x.fr = (u : Int) → d (2 * x.to.toNat) = none) → ∀ vs, vs = sideO (ofA q mask) (u : Int) false → ∀ j, j < vs.length → ∃ v : Nat, vs.getD j 0 = (v : Int) ∧ v < N ∧ ∀ m, d (2 * v) = some m → ¬ du < 0 ∧ ¬ ((m : Int) + 1 < du)) := Lib.hid fun u du h1 h2 vs hvs j hj => by
    have hz : vs.getD j 0 ∈ sideO (ofA q mask) (u : Int) false := by
      rw [← hvs, List.getD_eq_getElem?_getD, List.getElem?_eq_getElem hj]
      exact List.getElem_mem hj
    obtain ⟨x, hx, hfr, hto⟩ := mem_next.1 hz
    have hri := HRT.out x hx
    unfold rightO at hri
    obtain ⟨v, hv⟩ := Int.eq_ofNat_of_zero_le (show 0 ≤ vs.getD j 0 by omega)
    refine ⟨v, hv, by omega, fun m hm => ?_⟩
    have hvN : v < N := by omega
    have huN : u < N := by omega
    have hmem : u ∈ prN (ofA q mask) v := (mem_prN HRT.out).2 ⟨x, hx, hfr, by omega⟩
    obtain ⟨k, hk, hle⟩ := HIN.out.near v m hm u hmem huN (by omega)
    have := h1 k hk
    omega
  have HNONE : Hid (∀ u : Nat, d (2 * u) = none → ∀ x ∈ ofA q mask, x.fr = (u : Int) → d (2 * x.to.toNat) = none) := Lib.hid fun u hu x hx hfr => by
    cases e : d (2 * x.to.toNat) with
    | none => rfl
    | some m =>
      have hri := HRT.out x hx
      unfold rightO at hri
      have hmem : u ∈ prN (ofA q mask) x.to.toNat := (mem_prN HRT.out).2 ⟨x, hx, hfr, by omega⟩
      obtain ⟨k, hk, hle⟩ := HIN.out.near x.to.toNat m e u hmem (by omega) (by omega)
      rw [hu] at hk
      cases hk
  have hNi : (N : Int) ≤ 30 := by omega
  clear hd ho hi3 hcz hb3 HQ HMS
  go_wp2_with fail
  go_loopw [13] (fun s13 wr => ∃ u : Nat, s13 = .int .i64 (u : Int) ∧ u ≤ N ∧ Hid (Below w3.heap.size w3 wr)) (fun s13 _ => N - (intOf s13).toNat)
  case atStart => exact ⟨0, rfl, Nat.zero_le _, Lib.hid (Below.refl _ _)⟩
  case round =>
    obtain ⟨u, rfl, hu, HBR⟩ := hrel
    by_cases hun : u < N
    · have huni : (u : Int) < (N : Int) := by omega
      obtain ⟨hgz, hcz⟩ := HZ.out wr HBR.out u hun
      cases hfu : d (2 * u) with
      | none =>
        have hut : ¬ ((u : Int) = to_) := fun e => by
          have h0 : d (2 * u) = some 0 := HIN.out.start u e hun (by omega)
          rw [hfu] at h0
          cases h0
        have HDU : Hid (stepI (d (2 * u)) = -1) := Lib.hid (by rw [hfu]; rfl)
        have HSTEP := Lib.hid (HST.out u (-1) (fun k hk => by rw [hfu] at hk; cases hk) (HNONE.out u))
        rw [HDU.out] at hcz
        clear hfu
        go_wp2_with fail
        refine (HNX.out wr HBR.out u).mono ?_
        rintro e w4 ⟨lv, rfl, ho, hb⟩
        have HB4 := Lib.hid (HBR.out.trans (hb.mono HBR.out.size))
        obtain ⟨vs, hvs⟩ : ∃ vs, vs = sideO (ofA q mask) (u : Int) false := ⟨_, rfl⟩
        rw [← hvs] at ho
        have hvl : vs.length ≤ 100 := by rw [hvs]; have h1 := sideO_len (ofA q mask) (u : Int) false; have h2 := HLN.out; omega
        obtain ⟨pv, cv, hlv, _, hcv⟩ := (ho.ints (by omega)).open_
        subst hlv
        have HV : Hid (∀ j, j < vs.length → ∃ g o, pv = some ⟨g, o, none⟩ ∧ g < w4.heap.size ∧ w4.cell? ⟨g, o + j, none⟩ = some (.int .i64 (vs.getD j 0))) := Lib.hid fun j hj => by obtain ⟨g, o, h1, _, h2, h3⟩ := hcv j hj; exact ⟨g, o, h1, h2, h3⟩
        have HVS : Hid (vs = sideO (ofA q mask) (u : Int) false) := Lib.hid hvs
        obtain ⟨M, hM⟩ : ∃ M, M = vs.length := ⟨_, rfl⟩
        have HM := Lib.hid hM
        rw [← hM] at HV hvl ⊢
        have hMi : (M : Int) ≤ 100 := by omega
        clear ho hb hvs hcv hM hvl
        go_wp2_with fail
        go_loopw [14, 68] (fun s14 s68 wi => ∃ (j : Nat) (bb : Bool), s68 = .int .i64 (j : Int) ∧ s14 = .bool bb ∧ j ≤ M ∧ Hid (bb = stB true d (-1) vs j ∧ Below w4.heap.size w4 wi)) (fun _ s68 _ => M - (intOf s68).toNat)
        case atStart => exact ⟨0, true, rfl, rfl, Nat.zero_le _, Lib.hid ⟨by simp [stB], Below.refl _ _⟩⟩
        case round =>
          obtain ⟨j, bb, rfl, rfl, hj, HJ⟩ := hrel
          obtain rfl : bb = true := HJ.out.1.trans stB_true
          by_cases hlj : j < M
          · obtain ⟨gv, ov, rfl, hgv, hcv⟩ := HV.out j hlj
            have hbw := HJ.out.2
            have hcv := (hbw.cell (p := ⟨gv, _, none⟩) hgv).trans hcv
            have hgv := Nat.lt_of_lt_of_le hgv hbw.size
            obtain ⟨v, hzv, hvN, hnr⟩ := HSTEP.out vs HVS.out j (by have := HM.out; omega)
            rw [hzv] at hcv
            have hvNi : (v : Int) < (N : Int) := by omega
            have hjI : (j : Int) < (M : Int) := by omega
            have HBI : Hid (Below w3.heap.size w3 wr) := Lib.hid (HB4.out.trans (hbw.mono HB4.out.size))
            have hcz := (HZ.out wr HBI.out u hun).2
            have hcu := (HZ.out wr HBI.out v hvN).2
            have hgz := (HZ.out wr HBI.out v hvN).1
            rw [HDU.out] at hcz
            have HBJ := Lib.hid hbw
            have HSB : Hid (stB true d (-1) vs (j + 1) = (true || decide (stepI (d (2 * v)) = (-1) - 1))) := Lib.hid (by rw [HJ.out.1]; exact stB_succ true (by have := HM.out; omega) hzv)
            clear hbw hzv HJ
            cases hfv : d (2 * v) with
            | none =>
              rw [hfv] at hcu HSB hnr
              unfold stepI at hcu HSB
              simp only at hcu HSB
              clear hfv hnr
              go_upto_region 18 with fail
              refine wp_region_held_drew (S := fun X => X.cell? ⟨gz, oz + u, none⟩ = some (.int .i64 (-1)) ∧ X.cell? ⟨gz, oz + v, none⟩ = some (.int .i64 (-1))) (by kernel_rfl) ⟨hcz, hcu⟩ (fun hHeld0 => ?_)
              refine wpAnyH_take (i := 0) (v := ?_) rfl (by kernel_rfl) (by kernel_rfl) (by kernel_rfl) (fun _ _ _ h => h) (Or.inl ⟨by rfl, ?yana0⟩) (by assumption) ?qana0
              case yana0 => (intro wz hSw; (try dsimp only at hSw); go_simp <;> with_reducible rfl)
              try simp only [Act.put, List.getElem_toArray, List.getElem_cons_zero, List.setIfInBounds_toArray, List.set_cons_zero, List.set_cons_succ]
              refine wpAnyH_take (i := 1) (v := ?_) rfl (by kernel_rfl) (by kernel_rfl) (by kernel_rfl) (fun _ _ _ h => h) (Or.inl ⟨by rfl, ?yana1⟩) (by assumption) ?qana1
              case yana1 => (intro wz hSw; (try dsimp only at hSw); go_simp <;> with_reducible rfl)
              try simp only [Act.put, List.getElem_toArray, List.getElem_cons_zero, List.getElem_cons_succ, List.setIfInBounds_toArray, List.set_cons_zero, List.set_cons_succ]
              refine wpAnyH_take (i := 2) (v := ?_) rfl (by kernel_rfl) (by kernel_rfl) (by kernel_rfl) (fun _ _ _ h => h) (Or.inl ⟨by rfl, ?yana2⟩) (by assumption) ?qana2
              case yana2 => (intro wz hSw; (try dsimp only at hSw); go_simp <;> with_reducible rfl)
              try simp only [Act.put, List.getElem_toArray, List.getElem_cons_zero, List.getElem_cons_succ, List.setIfInBounds_toArray, List.set_cons_zero, List.set_cons_succ]
              refine wpAnyH_take (i := 3) (v := ?_) rfl (by kernel_rfl) (by kernel_rfl) (by kernel_rfl) (fun _ _ _ h => h) (Or.inl ⟨by rfl, ?yana3⟩) (by assumption) ?qana3
              case yana3 => (intro wz hSw; (try dsimp only at hSw); go_simp <;> with_reducible rfl)
              try simp only [Act.put, List.getElem_toArray, List.getElem_cons_zero, List.getElem_cons_succ, List.setIfInBounds_toArray, List.set_cons_zero, List.set_cons_succ]
              refine wpAnyH_take (i := 4) (v := ?_) rfl (by kernel_rfl) (by kernel_rfl) (by kernel_rfl) (fun _ _ _ h => h) (Or.inl ⟨by rfl, ?yana4⟩) (by assumption) ?qana4
              case yana4 => (intro wz hSw; (try dsimp only at hSw); go_simp <;> with_reducible rfl)
              try simp only [Act.put, List.getElem_toArray, List.getElem_cons_zero, List.getElem_cons_succ, List.setIfInBounds_toArray, List.set_cons_zero, List.set_cons_succ]
              refine wpAnyH_take (i := 5) (v := ?_) rfl (by kernel_rfl) (by kernel_rfl) (by kernel_rfl) (fun _ _ _ h => h) (Or.inl ⟨by rfl, ?yana5⟩) (by assumption) ?qana5
              case yana5 => (intro wz hSw; (try dsimp only at hSw); go_simp <;> with_reducible rfl)
              try simp only [Act.put, List.getElem_toArray, List.getElem_cons_zero, List.getElem_cons_succ, List.setIfInBounds_toArray, List.set_cons_zero, List.set_cons_succ]
              refine wpAnyH_take (i := 6) (v := undef) rfl (by kernel_rfl) (by kernel_rfl) (by kernel_rfl) (fun _ _ _ h => h) (Or.inr ⟨by rfl, rfl⟩) (by assumption) ?_
              try simp only [Act.put, List.getElem_toArray, List.getElem_cons_zero, List.getElem_cons_succ, List.setIfInBounds_toArray, List.set_cons_zero, List.set_cons_succ]
              refine wpAnyH_take (i := 7) (v := undef) rfl (by kernel_rfl) (by kernel_rfl) (by kernel_rfl) (fun _ _ _ h => h) (Or.inr ⟨by rfl, rfl⟩) (by assumption) ?_
              try simp only [Act.put, List.getElem_toArray, List.getElem_cons_zero, List.getElem_cons_succ, List.setIfInBounds_toArray, List.set_cons_zero, List.set_cons_succ]
              refine wpAnyH_take (i := 8) (v := undef) rfl (by kernel_rfl) (by kernel_rfl) (by kernel_rfl) (fun _ _ _ h => h) (Or.inr ⟨by rfl, rfl⟩) (by assumption) ?_
              try simp only [Act.put, List.getElem_toArray, List.getElem_cons_zero, List.getElem_cons_succ, List.setIfInBounds_toArray, List.set_cons_zero, List.set_cons_succ]
              refine wpAnyH_take (i := 9) (v := undef) rfl (by kernel_rfl) (by kernel_rfl) (by kernel_rfl) (fun _ _ _ h => h) (Or.inr ⟨by rfl, rfl⟩) (by assumption) ?_
              try simp only [Act.put, List.getElem_toArray, List.getElem_cons_zero, List.getElem_cons_succ, List.setIfInBounds_toArray, List.set_cons_zero, List.set_cons_succ]
              refine wpAnyH_take (i := 10) (v := undef) rfl (by kernel_rfl) (by kernel_rfl) (by kernel_rfl) (fun _ _ _ h => h) (Or.inr ⟨by rfl, rfl⟩) (by assumption) ?_
              try simp only [Act.put, List.getElem_toArray, List.getElem_cons_zero, List.getElem_cons_succ, List.setIfInBounds_toArray, List.set_cons_zero, List.set_cons_succ]
              refine wpAnyH_take (i := 11) (v := undef) rfl (by kernel_rfl) (by kernel_rfl) (by kernel_rfl) (fun _ _ _ h => h) (Or.inr ⟨by rfl, rfl⟩) (by assumption) ?_
              try simp only [Act.put, List.getElem_toArray, List.getElem_cons_zero, List.getElem_cons_succ, List.setIfInBounds_toArray, List.set_cons_zero, List.set_cons_succ]
              refine wpAnyH_take (i := 12) (v := undef) rfl (by kernel_rfl) (by kernel_rfl) (by kernel_rfl) (fun _ _ _ h => h) (Or.inr ⟨by rfl, rfl⟩) (by assumption) ?_
              try simp only [Act.put, List.getElem_toArray, List.getElem_cons_zero, List.getElem_cons_succ, List.setIfInBounds_toArray, List.set_cons_zero, List.set_cons_succ]
              refine wpAnyH_take (i := 13) (v := undef) rfl (by kernel_rfl) (by kernel_rfl) (by kernel_rfl) (fun _ _ _ h => h) (Or.inr ⟨by rfl, rfl⟩) (by assumption) ?_
              try simp only [Act.put, List.getElem_toArray, List.getElem_cons_zero, List.getElem_cons_succ, List.setIfInBounds_toArray, List.set_cons_zero, List.set_cons_succ]
              refine wpAnyH_take (i := 14) (v := undef) rfl (by kernel_rfl) (by kernel_rfl) (by kernel_rfl) (fun _ _ _ h => h) (Or.inr ⟨by rfl, rfl⟩) (by assumption) ?_
              try simp only [Act.put, List.getElem_toArray, List.getElem_cons_zero, List.getElem_cons_succ, List.setIfInBounds_toArray, List.set_cons_zero, List.set_cons_succ]
              refine wpAnyH_take (i := 15) (v := undef) rfl (by kernel_rfl) (by kernel_rfl) (by kernel_rfl) (fun _ _ _ h => h) (Or.inr ⟨by rfl, rfl⟩) (by assumption) ?_
              try simp only [Act.put, List.getElem_toArray, List.getElem_cons_zero, List.getElem_cons_succ, List.setIfInBounds_toArray, List.set_cons_zero, List.set_cons_succ]
              refine wpAnyH_take (i := 16) (v := undef) rfl (by kernel_rfl) (by kernel_rfl) (by kernel_rfl) (fun _ _ _ h => h) (Or.inr ⟨by rfl, rfl⟩) (by assumption) ?_
              try simp only [Act.put, List.getElem_toArray, List.getElem_cons_zero, List.getElem_cons_succ, List.setIfInBounds_toArray, List.set_cons_zero, List.set_cons_succ]
              refine wpAnyH_take (i := 17) (v := undef) rfl (by kernel_rfl) (by kernel_rfl) (by kernel_rfl) (fun _ _ _ h => h) (Or.inr ⟨by rfl, rfl⟩) (by assumption) ?_
              try simp only [Act.put, List.getElem_toArray, List.getElem_cons_zero, List.getElem_cons_succ, List.setIfInBounds_toArray, List.set_cons_zero, List.set_cons_succ]
              refine wpAnyH_take (i := 18) (v := undef) rfl (by kernel_rfl) (by kernel_rfl) (by kernel_rfl) (fun _ _ _ h => h) (Or.inr ⟨by rfl, rfl⟩) (by assumption) ?_
              try simp only [Act.put, List.getElem_toArray, List.getElem_cons_zero, List.getElem_cons_succ, List.setIfInBounds_toArray, List.set_cons_zero, List.set_cons_succ]
              refine wpAnyH_take (i := 19) (v := undef) rfl (by kernel_rfl) (by kernel_rfl) (by kernel_rfl) (fun _ _ _ h => h) (Or.inr ⟨by rfl, rfl⟩) (by assumption) ?_
              try simp only [Act.put, List.getElem_toArray, List.getElem_cons_zero, List.getElem_cons_succ, List.setIfInBounds_toArray, List.set_cons_zero, List.set_cons_succ]
              refine wpAnyH_take (i := 20) (v := undef) rfl (by kernel_rfl) (by kernel_rfl) (by kernel_rfl) (fun _ _ _ h => h) (Or.inr ⟨by rfl, rfl⟩) (by assumption) ?_
              try simp only [Act.put, List.getElem_toArray, List.getElem_cons_zero, List.getElem_cons_succ, List.setIfInBounds_toArray, List.set_cons_zero, List.set_cons_succ]
              refine wpAnyH_take (i := 21) (v := undef) rfl (by kernel_rfl) (by kernel_rfl) (by kernel_rfl) (fun _ _ _ h => h) (Or.inr ⟨by rfl, rfl⟩) (by assumption) ?_
              try simp only [Act.put, List.getElem_toArray, List.getElem_cons_zero, List.getElem_cons_succ, List.setIfInBounds_toArray, List.set_cons_zero, List.set_cons_succ]
              refine wpAnyH_take (i := 22) (v := undef) rfl (by kernel_rfl) (by kernel_rfl) (by kernel_rfl) (fun _ _ _ h => h) (Or.inr ⟨by rfl, rfl⟩) (by assumption) ?_
              try simp only [Act.put, List.getElem_toArray, List.getElem_cons_zero, List.getElem_cons_succ, List.setIfInBounds_toArray, List.set_cons_zero, List.set_cons_succ]
              refine wpAnyH_take (i := 23) (v := ?_) rfl (by kernel_rfl) (by kernel_rfl) (by kernel_rfl) (fun _ _ _ h => h) (Or.inl ⟨by rfl, ?yana23⟩) (by assumption) ?qana23
              case yana23 => (intro wz hSw; (try dsimp only at hSw); go_simp <;> with_reducible rfl)
              try simp only [Act.put, List.getElem_toArray, List.getElem_cons_zero, List.getElem_cons_succ, List.setIfInBounds_toArray, List.set_cons_zero, List.set_cons_succ]
              refine wpAnyH_done (by kernel_rfl) ?_ _
              have hcz2 : wr.drew.cell? ⟨gz, oz + u, none⟩ = some (.int .i64 (-1)) := hcz
              have hcu2 : wr.drew.cell? ⟨gz, oz + v, none⟩ = some (.int .i64 (-1)) := hcu
              go_upto_region 20 with fail
              refine wp_region_held_drew (S := fun X => X.cell? ⟨gz, oz + u, none⟩ = some (.int .i64 (-1)) ∧ X.cell? ⟨gz, oz + v, none⟩ = some (.int .i64 (-1))) (by kernel_rfl) ⟨hcz2, hcu2⟩ (fun hHeld1 => ?_)
              refine wpAnyH_take (i := 0) (v := ?_) rfl (by kernel_rfl) (by kernel_rfl) (by kernel_rfl) (fun _ _ _ h => h) (Or.inl ⟨by rfl, ?yanbt0⟩) (by assumption) ?qanbt0
              case yanbt0 => (intro wz hSw; (try dsimp only at hSw); go_simp <;> with_reducible rfl)
              try simp only [Act.put, List.getElem_toArray, List.getElem_cons_zero, List.setIfInBounds_toArray, List.set_cons_zero, List.set_cons_succ]
              refine wpAnyH_take (i := 1) (v := ?_) rfl (by kernel_rfl) (by kernel_rfl) (by kernel_rfl) (fun _ _ _ h => h) (Or.inl ⟨by rfl, ?yanbt1⟩) (by assumption) ?qanbt1
              case yanbt1 => (intro wz hSw; (try dsimp only at hSw); go_simp <;> with_reducible rfl)
              try simp only [Act.put, List.getElem_toArray, List.getElem_cons_zero, List.getElem_cons_succ, List.setIfInBounds_toArray, List.set_cons_zero, List.set_cons_succ]
              refine wpAnyH_take (i := 2) (v := undef) rfl (by kernel_rfl) (by kernel_rfl) (by kernel_rfl) (fun _ _ _ h => h) (Or.inr ⟨by rfl, rfl⟩) (by assumption) ?_
              try simp only [Act.put, List.getElem_toArray, List.getElem_cons_zero, List.getElem_cons_succ, List.setIfInBounds_toArray, List.set_cons_zero, List.set_cons_succ]
              refine wpAnyH_take (i := 3) (v := undef) rfl (by kernel_rfl) (by kernel_rfl) (by kernel_rfl) (fun _ _ _ h => h) (Or.inr ⟨by rfl, rfl⟩) (by assumption) ?_
              try simp only [Act.put, List.getElem_toArray, List.getElem_cons_zero, List.getElem_cons_succ, List.setIfInBounds_toArray, List.set_cons_zero, List.set_cons_succ]
              refine wpAnyH_take (i := 4) (v := undef) rfl (by kernel_rfl) (by kernel_rfl) (by kernel_rfl) (fun _ _ _ h => h) (Or.inr ⟨by rfl, rfl⟩) (by assumption) ?_
              try simp only [Act.put, List.getElem_toArray, List.getElem_cons_zero, List.getElem_cons_succ, List.setIfInBounds_toArray, List.set_cons_zero, List.set_cons_succ]
              refine wpAnyH_take (i := 5) (v := undef) rfl (by kernel_rfl) (by kernel_rfl) (by kernel_rfl) (fun _ _ _ h => h) (Or.inr ⟨by rfl, rfl⟩) (by assumption) ?_
              try simp only [Act.put, List.getElem_toArray, List.getElem_cons_zero, List.getElem_cons_succ, List.setIfInBounds_toArray, List.set_cons_zero, List.set_cons_succ]
              refine wpAnyH_take (i := 6) (v := undef) rfl (by kernel_rfl) (by kernel_rfl) (by kernel_rfl) (fun _ _ _ h => h) (Or.inr ⟨by rfl, rfl⟩) (by assumption) ?_
              try simp only [Act.put, List.getElem_toArray, List.getElem_cons_zero, List.getElem_cons_succ, List.setIfInBounds_toArray, List.set_cons_zero, List.set_cons_succ]
              refine wpAnyH_take (i := 7) (v := undef) rfl (by kernel_rfl) (by kernel_rfl) (by kernel_rfl) (fun _ _ _ h => h) (Or.inr ⟨by rfl, rfl⟩) (by assumption) ?_
              try simp only [Act.put, List.getElem_toArray, List.getElem_cons_zero, List.getElem_cons_succ, List.setIfInBounds_toArray, List.set_cons_zero, List.set_cons_succ]
              refine wpAnyH_take (i := 8) (v := undef) rfl (by kernel_rfl) (by kernel_rfl) (by kernel_rfl) (fun _ _ _ h => h) (Or.inr ⟨by rfl, rfl⟩) (by assumption) ?_
              try simp only [Act.put, List.getElem_toArray, List.getElem_cons_zero, List.getElem_cons_succ, List.setIfInBounds_toArray, List.set_cons_zero, List.set_cons_succ]
              refine wpAnyH_take (i := 9) (v := undef) rfl (by kernel_rfl) (by kernel_rfl) (by kernel_rfl) (fun _ _ _ h => h) (Or.inr ⟨by rfl, rfl⟩) (by assumption) ?_
              try simp only [Act.put, List.getElem_toArray, List.getElem_cons_zero, List.getElem_cons_succ, List.setIfInBounds_toArray, List.set_cons_zero, List.set_cons_succ]
              refine wpAnyH_take (i := 10) (v := undef) rfl (by kernel_rfl) (by kernel_rfl) (by kernel_rfl) (fun _ _ _ h => h) (Or.inr ⟨by rfl, rfl⟩) (by assumption) ?_
              try simp only [Act.put, List.getElem_toArray, List.getElem_cons_zero, List.getElem_cons_succ, List.setIfInBounds_toArray, List.set_cons_zero, List.set_cons_succ]
              refine wpAnyH_take (i := 11) (v := undef) rfl (by kernel_rfl) (by kernel_rfl) (by kernel_rfl) (fun _ _ _ h => h) (Or.inr ⟨by rfl, rfl⟩) (by assumption) ?_
              try simp only [Act.put, List.getElem_toArray, List.getElem_cons_zero, List.getElem_cons_succ, List.setIfInBounds_toArray, List.set_cons_zero, List.set_cons_succ]
              refine wpAnyH_take (i := 12) (v := ?_) rfl (by kernel_rfl) (by kernel_rfl) (by kernel_rfl) (fun _ _ _ h => h) (Or.inl ⟨by rfl, ?yanbt12⟩) (by assumption) ?qanbt12
              case yanbt12 => (intro wz hSw; (try dsimp only at hSw); go_simp <;> with_reducible rfl)
              try simp only [Act.put, List.getElem_toArray, List.getElem_cons_zero, List.getElem_cons_succ, List.setIfInBounds_toArray, List.set_cons_zero, List.set_cons_succ]
              refine wpAnyH_take (i := 13) (v := ?_) rfl (by kernel_rfl) (by kernel_rfl) (by kernel_rfl) (fun _ _ _ h => h) (Or.inl ⟨by rfl, ?yanbt13⟩) (by assumption) ?qanbt13
              case yanbt13 => (intro wz hSw; (try dsimp only at hSw); go_simp <;> with_reducible rfl)
              try simp only [Act.put, List.getElem_toArray, List.getElem_cons_zero, List.getElem_cons_succ, List.setIfInBounds_toArray, List.set_cons_zero, List.set_cons_succ]
              refine wpAnyH_done (by kernel_rfl) ?_ _
              have HN : Hid (Below w4.heap.size w4 wr.drew.drew) := Lib.hid (below_drewN (below_drewN HBJ.out 1) 1)
              go_wp2_with fail
              go_roundw
              case rel => exact ⟨j + 1, _, by go_num, rfl, hlj, Lib.hid ⟨by rw [HSB.out]; first | rfl | (rw [Bool.eq_iff_iff]; simp; done) | (rw [HWK.out]; rw [Bool.eq_iff_iff]; simp; done) | (rw [HWK.out]; rw [Bool.eq_iff_iff]; simp; omega), HN.out⟩⟩
              case measure => simp [intOf]; omega
            | some m =>
              obtain ⟨hn1, hn2⟩ := hnr m hfv
              exfalso; omega
          · have e : M = j := by omega
            subst e
            have HBI : Hid (Below w3.heap.size w3 wr) := Lib.hid (HB4.out.trans (HJ.out.2.mono HB4.out.size))
            have hb := HJ.out.1
            have hcz := (HZ.out wr HBI.out u hun).2
            have hgz := (HZ.out wr HBI.out u hun).1
            rw [HDU.out] at hcz
            clear HV HVS HJ hb
            go_wp2_with fail
            go_roundw
            case rel => exact ⟨u + 1, by go_num, hun, HBI⟩
            case measure => simp [intOf]; omega
      | some k1 =>
        have hkb := HBD.out _ _ hfu
        cases k1 with
        | zero =>
          have hut : (u : Int) = to_ := (HIN.out.zero u 0 hfu).1 rfl
          have HDU : Hid (stepI (d (2 * u)) = 0) := Lib.hid (by rw [hfu]; rfl)
          have HSTEP := Lib.hid (HST.out u 0 (fun k hk => by rw [hfu] at hk; injection hk with hk; omega) (HNONE.out u))
          rw [HDU.out] at hcz
          clear hfu hkb
          subst hut
          go_wp2_with fail
          refine (HNX.out wr HBR.out u).mono ?_
          rintro e w4 ⟨lv, rfl, ho, hb⟩
          have HB4 := Lib.hid (HBR.out.trans (hb.mono HBR.out.size))
          obtain ⟨vs, hvs⟩ : ∃ vs, vs = sideO (ofA q mask) (u : Int) false := ⟨_, rfl⟩
          rw [← hvs] at ho
          have hvl : vs.length ≤ 100 := by rw [hvs]; have h1 := sideO_len (ofA q mask) (u : Int) false; have h2 := HLN.out; omega
          obtain ⟨pv, cv, hlv, _, hcv⟩ := (ho.ints (by omega)).open_
          subst hlv
          have HV : Hid (∀ j, j < vs.length → ∃ g o, pv = some ⟨g, o, none⟩ ∧ g < w4.heap.size ∧ w4.cell? ⟨g, o + j, none⟩ = some (.int .i64 (vs.getD j 0))) := Lib.hid fun j hj => by obtain ⟨g, o, h1, _, h2, h3⟩ := hcv j hj; exact ⟨g, o, h1, h2, h3⟩
          have HVS : Hid (vs = sideO (ofA q mask) (u : Int) false) := Lib.hid hvs
          obtain ⟨M, hM⟩ : ∃ M, M = vs.length := ⟨_, rfl⟩
          have HM := Lib.hid hM
          rw [← hM] at HV hvl ⊢
          have hMi : (M : Int) ≤ 100 := by omega
          clear ho hb hvs hcv hM hvl
          go_wp2_with fail
          go_loopw [14, 68] (fun s14 s68 wi => ∃ (j : Nat) (bb : Bool), s68 = .int .i64 (j : Int) ∧ s14 = .bool bb ∧ j ≤ M ∧ Hid (bb = stB true d 0 vs j ∧ Below w4.heap.size w4 wi)) (fun _ s68 _ => M - (intOf s68).toNat)
          case atStart => exact ⟨0, true, rfl, rfl, Nat.zero_le _, Lib.hid ⟨by simp [stB], Below.refl _ _⟩⟩
          case round =>
            obtain ⟨j, bb, rfl, rfl, hj, HJ⟩ := hrel
            obtain rfl : bb = true := HJ.out.1.trans stB_true
            by_cases hlj : j < M
            · obtain ⟨gv, ov, rfl, hgv, hcv⟩ := HV.out j hlj
              have hbw := HJ.out.2
              have hcv := (hbw.cell (p := ⟨gv, _, none⟩) hgv).trans hcv
              have hgv := Nat.lt_of_lt_of_le hgv hbw.size
              obtain ⟨v, hzv, hvN, hnr⟩ := HSTEP.out vs HVS.out j (by have := HM.out; omega)
              rw [hzv] at hcv
              have hvNi : (v : Int) < (N : Int) := by omega
              have hjI : (j : Int) < (M : Int) := by omega
              have HBI : Hid (Below w3.heap.size w3 wr) := Lib.hid (HB4.out.trans (hbw.mono HB4.out.size))
              have hcz := (HZ.out wr HBI.out u hun).2
              have hcu := (HZ.out wr HBI.out v hvN).2
              have hgz := (HZ.out wr HBI.out v hvN).1
              rw [HDU.out] at hcz
              have HBJ := Lib.hid hbw
              have HSB : Hid (stB true d 0 vs (j + 1) = (true || decide (stepI (d (2 * v)) = 0 - 1))) := Lib.hid (by rw [HJ.out.1]; exact stB_succ true (by have := HM.out; omega) hzv)
              clear hbw hzv HJ
              cases hfv : d (2 * v) with
              | none =>
                rw [hfv] at hcu HSB hnr
                unfold stepI at hcu HSB
                simp only at hcu HSB
                clear hfv hnr
                go_upto_region 18 with fail
                refine wp_region_held_drew (S := fun X => X.cell? ⟨gz, oz + u, none⟩ = some (.int .i64 0) ∧ X.cell? ⟨gz, oz + v, none⟩ = some (.int .i64 (-1))) (by kernel_rfl) ⟨hcz, hcu⟩ (fun hHeld0 => ?_)
                refine wpAnyH_take (i := 0) (v := ?_) rfl (by kernel_rfl) (by kernel_rfl) (by kernel_rfl) (fun _ _ _ h => h) (Or.inl ⟨by rfl, ?ybna0⟩) (by assumption) ?qbna0
                case ybna0 => (intro wz hSw; (try dsimp only at hSw); go_simp <;> with_reducible rfl)
                try simp only [Act.put, List.getElem_toArray, List.getElem_cons_zero, List.setIfInBounds_toArray, List.set_cons_zero, List.set_cons_succ]
                refine wpAnyH_take (i := 1) (v := ?_) rfl (by kernel_rfl) (by kernel_rfl) (by kernel_rfl) (fun _ _ _ h => h) (Or.inl ⟨by rfl, ?ybna1⟩) (by assumption) ?qbna1
                case ybna1 => (intro wz hSw; (try dsimp only at hSw); go_simp <;> with_reducible rfl)
                try simp only [Act.put, List.getElem_toArray, List.getElem_cons_zero, List.getElem_cons_succ, List.setIfInBounds_toArray, List.set_cons_zero, List.set_cons_succ]
                refine wpAnyH_take (i := 2) (v := ?_) rfl (by kernel_rfl) (by kernel_rfl) (by kernel_rfl) (fun _ _ _ h => h) (Or.inl ⟨by rfl, ?ybna2⟩) (by assumption) ?qbna2
                case ybna2 => (intro wz hSw; (try dsimp only at hSw); go_simp <;> with_reducible rfl)
                try simp only [Act.put, List.getElem_toArray, List.getElem_cons_zero, List.getElem_cons_succ, List.setIfInBounds_toArray, List.set_cons_zero, List.set_cons_succ]
                refine wpAnyH_take (i := 3) (v := ?_) rfl (by kernel_rfl) (by kernel_rfl) (by kernel_rfl) (fun _ _ _ h => h) (Or.inl ⟨by rfl, ?ybna3⟩) (by assumption) ?qbna3
                case ybna3 => (intro wz hSw; (try dsimp only at hSw); go_simp <;> with_reducible rfl)
                try simp only [Act.put, List.getElem_toArray, List.getElem_cons_zero, List.getElem_cons_succ, List.setIfInBounds_toArray, List.set_cons_zero, List.set_cons_succ]
                refine wpAnyH_take (i := 4) (v := ?_) rfl (by kernel_rfl) (by kernel_rfl) (by kernel_rfl) (fun _ _ _ h => h) (Or.inl ⟨by rfl, ?ybna4⟩) (by assumption) ?qbna4
                case ybna4 => (intro wz hSw; (try dsimp only at hSw); go_simp <;> with_reducible rfl)
                try simp only [Act.put, List.getElem_toArray, List.getElem_cons_zero, List.getElem_cons_succ, List.setIfInBounds_toArray, List.set_cons_zero, List.set_cons_succ]
                refine wpAnyH_take (i := 5) (v := ?_) rfl (by kernel_rfl) (by kernel_rfl) (by kernel_rfl) (fun _ _ _ h => h) (Or.inl ⟨by rfl, ?ybna5⟩) (by assumption) ?qbna5
                case ybna5 => (intro wz hSw; (try dsimp only at hSw); go_simp <;> with_reducible rfl)
                try simp only [Act.put, List.getElem_toArray, List.getElem_cons_zero, List.getElem_cons_succ, List.setIfInBounds_toArray, List.set_cons_zero, List.set_cons_succ]
                refine wpAnyH_take (i := 6) (v := undef) rfl (by kernel_rfl) (by kernel_rfl) (by kernel_rfl) (fun _ _ _ h => h) (Or.inr ⟨by rfl, rfl⟩) (by assumption) ?_
                try simp only [Act.put, List.getElem_toArray, List.getElem_cons_zero, List.getElem_cons_succ, List.setIfInBounds_toArray, List.set_cons_zero, List.set_cons_succ]
                refine wpAnyH_take (i := 7) (v := undef) rfl (by kernel_rfl) (by kernel_rfl) (by kernel_rfl) (fun _ _ _ h => h) (Or.inr ⟨by rfl, rfl⟩) (by assumption) ?_
                try simp only [Act.put, List.getElem_toArray, List.getElem_cons_zero, List.getElem_cons_succ, List.setIfInBounds_toArray, List.set_cons_zero, List.set_cons_succ]
                refine wpAnyH_take (i := 8) (v := undef) rfl (by kernel_rfl) (by kernel_rfl) (by kernel_rfl) (fun _ _ _ h => h) (Or.inr ⟨by rfl, rfl⟩) (by assumption) ?_
                try simp only [Act.put, List.getElem_toArray, List.getElem_cons_zero, List.getElem_cons_succ, List.setIfInBounds_toArray, List.set_cons_zero, List.set_cons_succ]
                refine wpAnyH_take (i := 9) (v := undef) rfl (by kernel_rfl) (by kernel_rfl) (by kernel_rfl) (fun _ _ _ h => h) (Or.inr ⟨by rfl, rfl⟩) (by assumption) ?_
                try simp only [Act.put, List.getElem_toArray, List.getElem_cons_zero, List.getElem_cons_succ, List.setIfInBounds_toArray, List.set_cons_zero, List.set_cons_succ]
                refine wpAnyH_take (i := 10) (v := undef) rfl (by kernel_rfl) (by kernel_rfl) (by kernel_rfl) (fun _ _ _ h => h) (Or.inr ⟨by rfl, rfl⟩) (by assumption) ?_
                try simp only [Act.put, List.getElem_toArray, List.getElem_cons_zero, List.getElem_cons_succ, List.setIfInBounds_toArray, List.set_cons_zero, List.set_cons_succ]
                refine wpAnyH_take (i := 11) (v := undef) rfl (by kernel_rfl) (by kernel_rfl) (by kernel_rfl) (fun _ _ _ h => h) (Or.inr ⟨by rfl, rfl⟩) (by assumption) ?_
                try simp only [Act.put, List.getElem_toArray, List.getElem_cons_zero, List.getElem_cons_succ, List.setIfInBounds_toArray, List.set_cons_zero, List.set_cons_succ]
                refine wpAnyH_take (i := 12) (v := undef) rfl (by kernel_rfl) (by kernel_rfl) (by kernel_rfl) (fun _ _ _ h => h) (Or.inr ⟨by rfl, rfl⟩) (by assumption) ?_
                try simp only [Act.put, List.getElem_toArray, List.getElem_cons_zero, List.getElem_cons_succ, List.setIfInBounds_toArray, List.set_cons_zero, List.set_cons_succ]
                refine wpAnyH_take (i := 13) (v := undef) rfl (by kernel_rfl) (by kernel_rfl) (by kernel_rfl) (fun _ _ _ h => h) (Or.inr ⟨by rfl, rfl⟩) (by assumption) ?_
                try simp only [Act.put, List.getElem_toArray, List.getElem_cons_zero, List.getElem_cons_succ, List.setIfInBounds_toArray, List.set_cons_zero, List.set_cons_succ]
                refine wpAnyH_take (i := 14) (v := undef) rfl (by kernel_rfl) (by kernel_rfl) (by kernel_rfl) (fun _ _ _ h => h) (Or.inr ⟨by rfl, rfl⟩) (by assumption) ?_
                try simp only [Act.put, List.getElem_toArray, List.getElem_cons_zero, List.getElem_cons_succ, List.setIfInBounds_toArray, List.set_cons_zero, List.set_cons_succ]
                refine wpAnyH_take (i := 15) (v := undef) rfl (by kernel_rfl) (by kernel_rfl) (by kernel_rfl) (fun _ _ _ h => h) (Or.inr ⟨by rfl, rfl⟩) (by assumption) ?_
                try simp only [Act.put, List.getElem_toArray, List.getElem_cons_zero, List.getElem_cons_succ, List.setIfInBounds_toArray, List.set_cons_zero, List.set_cons_succ]
                refine wpAnyH_take (i := 16) (v := undef) rfl (by kernel_rfl) (by kernel_rfl) (by kernel_rfl) (fun _ _ _ h => h) (Or.inr ⟨by rfl, rfl⟩) (by assumption) ?_
                try simp only [Act.put, List.getElem_toArray, List.getElem_cons_zero, List.getElem_cons_succ, List.setIfInBounds_toArray, List.set_cons_zero, List.set_cons_succ]
                refine wpAnyH_take (i := 17) (v := undef) rfl (by kernel_rfl) (by kernel_rfl) (by kernel_rfl) (fun _ _ _ h => h) (Or.inr ⟨by rfl, rfl⟩) (by assumption) ?_
                try simp only [Act.put, List.getElem_toArray, List.getElem_cons_zero, List.getElem_cons_succ, List.setIfInBounds_toArray, List.set_cons_zero, List.set_cons_succ]
                refine wpAnyH_take (i := 18) (v := undef) rfl (by kernel_rfl) (by kernel_rfl) (by kernel_rfl) (fun _ _ _ h => h) (Or.inr ⟨by rfl, rfl⟩) (by assumption) ?_
                try simp only [Act.put, List.getElem_toArray, List.getElem_cons_zero, List.getElem_cons_succ, List.setIfInBounds_toArray, List.set_cons_zero, List.set_cons_succ]
                refine wpAnyH_take (i := 19) (v := undef) rfl (by kernel_rfl) (by kernel_rfl) (by kernel_rfl) (fun _ _ _ h => h) (Or.inr ⟨by rfl, rfl⟩) (by assumption) ?_
                try simp only [Act.put, List.getElem_toArray, List.getElem_cons_zero, List.getElem_cons_succ, List.setIfInBounds_toArray, List.set_cons_zero, List.set_cons_succ]
                refine wpAnyH_take (i := 20) (v := undef) rfl (by kernel_rfl) (by kernel_rfl) (by kernel_rfl) (fun _ _ _ h => h) (Or.inr ⟨by rfl, rfl⟩) (by assumption) ?_
                try simp only [Act.put, List.getElem_toArray, List.getElem_cons_zero, List.getElem_cons_succ, List.setIfInBounds_toArray, List.set_cons_zero, List.set_cons_succ]
                refine wpAnyH_take (i := 21) (v := undef) rfl (by kernel_rfl) (by kernel_rfl) (by kernel_rfl) (fun _ _ _ h => h) (Or.inr ⟨by rfl, rfl⟩) (by assumption) ?_
                try simp only [Act.put, List.getElem_toArray, List.getElem_cons_zero, List.getElem_cons_succ, List.setIfInBounds_toArray, List.set_cons_zero, List.set_cons_succ]
                refine wpAnyH_take (i := 22) (v := undef) rfl (by kernel_rfl) (by kernel_rfl) (by kernel_rfl) (fun _ _ _ h => h) (Or.inr ⟨by rfl, rfl⟩) (by assumption) ?_
                try simp only [Act.put, List.getElem_toArray, List.getElem_cons_zero, List.getElem_cons_succ, List.setIfInBounds_toArray, List.set_cons_zero, List.set_cons_succ]
                refine wpAnyH_take (i := 23) (v := ?_) rfl (by kernel_rfl) (by kernel_rfl) (by kernel_rfl) (fun _ _ _ h => h) (Or.inl ⟨by rfl, ?ybna23⟩) (by assumption) ?qbna23
                case ybna23 => (intro wz hSw; (try dsimp only at hSw); go_simp <;> with_reducible rfl)
                try simp only [Act.put, List.getElem_toArray, List.getElem_cons_zero, List.getElem_cons_succ, List.setIfInBounds_toArray, List.set_cons_zero, List.set_cons_succ]
                refine wpAnyH_done (by kernel_rfl) ?_ _
                have hcz2 : wr.drew.cell? ⟨gz, oz + u, none⟩ = some (.int .i64 0) := hcz
                have hcu2 : wr.drew.cell? ⟨gz, oz + v, none⟩ = some (.int .i64 (-1)) := hcu
                go_upto_region 20 with fail
                refine wp_region_held_drew (S := fun X => X.cell? ⟨gz, oz + u, none⟩ = some (.int .i64 0) ∧ X.cell? ⟨gz, oz + v, none⟩ = some (.int .i64 (-1))) (by kernel_rfl) ⟨hcz2, hcu2⟩ (fun hHeld1 => ?_)
                refine wpAnyH_take (i := 0) (v := ?_) rfl (by kernel_rfl) (by kernel_rfl) (by kernel_rfl) (fun _ _ _ h => h) (Or.inl ⟨by rfl, ?ybnbt0⟩) (by assumption) ?qbnbt0
                case ybnbt0 => (intro wz hSw; (try dsimp only at hSw); go_simp <;> with_reducible rfl)
                try simp only [Act.put, List.getElem_toArray, List.getElem_cons_zero, List.setIfInBounds_toArray, List.set_cons_zero, List.set_cons_succ]
                refine wpAnyH_take (i := 1) (v := ?_) rfl (by kernel_rfl) (by kernel_rfl) (by kernel_rfl) (fun _ _ _ h => h) (Or.inl ⟨by rfl, ?ybnbt1⟩) (by assumption) ?qbnbt1
                case ybnbt1 => (intro wz hSw; (try dsimp only at hSw); go_simp <;> with_reducible rfl)
                try simp only [Act.put, List.getElem_toArray, List.getElem_cons_zero, List.getElem_cons_succ, List.setIfInBounds_toArray, List.set_cons_zero, List.set_cons_succ]
                refine wpAnyH_take (i := 2) (v := undef) rfl (by kernel_rfl) (by kernel_rfl) (by kernel_rfl) (fun _ _ _ h => h) (Or.inr ⟨by rfl, rfl⟩) (by assumption) ?_
                try simp only [Act.put, List.getElem_toArray, List.getElem_cons_zero, List.getElem_cons_succ, List.setIfInBounds_toArray, List.set_cons_zero, List.set_cons_succ]
                refine wpAnyH_take (i := 3) (v := undef) rfl (by kernel_rfl) (by kernel_rfl) (by kernel_rfl) (fun _ _ _ h => h) (Or.inr ⟨by rfl, rfl⟩) (by assumption) ?_
                try simp only [Act.put, List.getElem_toArray, List.getElem_cons_zero, List.getElem_cons_succ, List.setIfInBounds_toArray, List.set_cons_zero, List.set_cons_succ]
                refine wpAnyH_take (i := 4) (v := undef) rfl (by kernel_rfl) (by kernel_rfl) (by kernel_rfl) (fun _ _ _ h => h) (Or.inr ⟨by rfl, rfl⟩) (by assumption) ?_
                try simp only [Act.put, List.getElem_toArray, List.getElem_cons_zero, List.getElem_cons_succ, List.setIfInBounds_toArray, List.set_cons_zero, List.set_cons_succ]
                refine wpAnyH_take (i := 5) (v := undef) rfl (by kernel_rfl) (by kernel_rfl) (by kernel_rfl) (fun _ _ _ h => h) (Or.inr ⟨by rfl, rfl⟩) (by assumption) ?_
                try simp only [Act.put, List.getElem_toArray, List.getElem_cons_zero, List.getElem_cons_succ, List.setIfInBounds_toArray, List.set_cons_zero, List.set_cons_succ]
                refine wpAnyH_take (i := 6) (v := undef) rfl (by kernel_rfl) (by kernel_rfl) (by kernel_rfl) (fun _ _ _ h => h) (Or.inr ⟨by rfl, rfl⟩) (by assumption) ?_
                try simp only [Act.put, List.getElem_toArray, List.getElem_cons_zero, List.getElem_cons_succ, List.setIfInBounds_toArray, List.set_cons_zero, List.set_cons_succ]
                refine wpAnyH_take (i := 7) (v := undef) rfl (by kernel_rfl) (by kernel_rfl) (by kernel_rfl) (fun _ _ _ h => h) (Or.inr ⟨by rfl, rfl⟩) (by assumption) ?_
                try simp only [Act.put, List.getElem_toArray, List.getElem_cons_zero, List.getElem_cons_succ, List.setIfInBounds_toArray, List.set_cons_zero, List.set_cons_succ]
                refine wpAnyH_take (i := 8) (v := undef) rfl (by kernel_rfl) (by kernel_rfl) (by kernel_rfl) (fun _ _ _ h => h) (Or.inr ⟨by rfl, rfl⟩) (by assumption) ?_
                try simp only [Act.put, List.getElem_toArray, List.getElem_cons_zero, List.getElem_cons_succ, List.setIfInBounds_toArray, List.set_cons_zero, List.set_cons_succ]
                refine wpAnyH_take (i := 9) (v := undef) rfl (by kernel_rfl) (by kernel_rfl) (by kernel_rfl) (fun _ _ _ h => h) (Or.inr ⟨by rfl, rfl⟩) (by assumption) ?_
                try simp only [Act.put, List.getElem_toArray, List.getElem_cons_zero, List.getElem_cons_succ, List.setIfInBounds_toArray, List.set_cons_zero, List.set_cons_succ]
                refine wpAnyH_take (i := 10) (v := undef) rfl (by kernel_rfl) (by kernel_rfl) (by kernel_rfl) (fun _ _ _ h => h) (Or.inr ⟨by rfl, rfl⟩) (by assumption) ?_
                try simp only [Act.put, List.getElem_toArray, List.getElem_cons_zero, List.getElem_cons_succ, List.setIfInBounds_toArray, List.set_cons_zero, List.set_cons_succ]
                refine wpAnyH_take (i := 11) (v := undef) rfl (by kernel_rfl) (by kernel_rfl) (by kernel_rfl) (fun _ _ _ h => h) (Or.inr ⟨by rfl, rfl⟩) (by assumption) ?_
                try simp only [Act.put, List.getElem_toArray, List.getElem_cons_zero, List.getElem_cons_succ, List.setIfInBounds_toArray, List.set_cons_zero, List.set_cons_succ]
                refine wpAnyH_take (i := 12) (v := ?_) rfl (by kernel_rfl) (by kernel_rfl) (by kernel_rfl) (fun _ _ _ h => h) (Or.inl ⟨by rfl, ?ybnbt12⟩) (by assumption) ?qbnbt12
                case ybnbt12 => (intro wz hSw; (try dsimp only at hSw); go_simp <;> with_reducible rfl)
                try simp only [Act.put, List.getElem_toArray, List.getElem_cons_zero, List.getElem_cons_succ, List.setIfInBounds_toArray, List.set_cons_zero, List.set_cons_succ]
                refine wpAnyH_take (i := 13) (v := ?_) rfl (by kernel_rfl) (by kernel_rfl) (by kernel_rfl) (fun _ _ _ h => h) (Or.inl ⟨by rfl, ?ybnbt13⟩) (by assumption) ?qbnbt13
                case ybnbt13 => (intro wz hSw; (try dsimp only at hSw); go_simp <;> with_reducible rfl)
                try simp only [Act.put, List.getElem_toArray, List.getElem_cons_zero, List.getElem_cons_succ, List.setIfInBounds_toArray, List.set_cons_zero, List.set_cons_succ]
                refine wpAnyH_done (by kernel_rfl) ?_ _
                have HN : Hid (Below w4.heap.size w4 wr.drew.drew) := Lib.hid (below_drewN (below_drewN HBJ.out 1) 1)
                go_wp2_with fail
                go_roundw
                case rel => exact ⟨j + 1, _, by go_num, rfl, hlj, Lib.hid ⟨by rw [HSB.out]; first | rfl | (rw [Bool.eq_iff_iff]; simp; done) | (rw [HWK.out]; rw [Bool.eq_iff_iff]; simp; done) | (rw [HWK.out]; rw [Bool.eq_iff_iff]; simp; omega), HN.out⟩⟩
                case measure => simp [intOf]; omega
              | some m =>
                rw [hfv] at hcu HSB
                unfold stepI at hcu HSB
                simp only at hcu HSB
                obtain ⟨hn1, hn2⟩ := hnr m hfv
                have hn3 : decide ((m : Int) + 1 < 0) = false := decide_eq_false (by omega)
                have hm0 : (0 : Int) ≤ (m : Int) := by omega
                have hm1 : (m : Int) ≤ 100000 := by have := HBD.out _ _ hfv; omega
                have hwm : IntKind.i64.wrap ((m : Int) + 1) = (m : Int) + 1 := by rw [IntKind.wrap_i64]; omega
                have hn4 : decide (IntKind.i64.wrap ((m : Int) + 1) < 0) = false := by rw [hwm]; exact hn3
                clear hfv hnr
                go_upto_region 18 with fail
                refine wp_region_held_drew (S := fun X => X.cell? ⟨gz, oz + u, none⟩ = some (.int .i64 0) ∧ X.cell? ⟨gz, oz + v, none⟩ = some (.int .i64 (m : Int))) (by kernel_rfl) ⟨hcz, hcu⟩ (fun hHeld0 => ?_)
                refine wpAnyH_take (i := 0) (v := ?_) rfl (by kernel_rfl) (by kernel_rfl) (by kernel_rfl) (fun _ _ _ h => h) (Or.inl ⟨by rfl, ?ybsa0⟩) (by assumption) ?qbsa0
                case ybsa0 => (intro wz hSw; (try dsimp only at hSw); go_simp <;> with_reducible rfl)
                try simp only [Act.put, List.getElem_toArray, List.getElem_cons_zero, List.setIfInBounds_toArray, List.set_cons_zero, List.set_cons_succ]
                refine wpAnyH_take (i := 1) (v := ?_) rfl (by kernel_rfl) (by kernel_rfl) (by kernel_rfl) (fun _ _ _ h => h) (Or.inl ⟨by rfl, ?ybsa1⟩) (by assumption) ?qbsa1
                case ybsa1 => (intro wz hSw; (try dsimp only at hSw); go_simp <;> with_reducible rfl)
                try simp only [Act.put, List.getElem_toArray, List.getElem_cons_zero, List.getElem_cons_succ, List.setIfInBounds_toArray, List.set_cons_zero, List.set_cons_succ]
                refine wpAnyH_take (i := 2) (v := ?_) rfl (by kernel_rfl) (by kernel_rfl) (by kernel_rfl) (fun _ _ _ h => h) (Or.inl ⟨by rfl, ?ybsa2⟩) (by assumption) ?qbsa2
                case ybsa2 => (intro wz hSw; (try dsimp only at hSw); go_simp <;> with_reducible rfl)
                try simp only [Act.put, List.getElem_toArray, List.getElem_cons_zero, List.getElem_cons_succ, List.setIfInBounds_toArray, List.set_cons_zero, List.set_cons_succ]
                refine wpAnyH_take (i := 3) (v := ?_) rfl (by kernel_rfl) (by kernel_rfl) (by kernel_rfl) (fun _ _ _ h => h) (Or.inl ⟨by rfl, ?ybsa3⟩) (by assumption) ?qbsa3
                case ybsa3 => (intro wz hSw; (try dsimp only at hSw); go_simp <;> with_reducible rfl)
                try simp only [Act.put, List.getElem_toArray, List.getElem_cons_zero, List.getElem_cons_succ, List.setIfInBounds_toArray, List.set_cons_zero, List.set_cons_succ]
                refine wpAnyH_take (i := 4) (v := ?_) rfl (by kernel_rfl) (by kernel_rfl) (by kernel_rfl) (fun _ _ _ h => h) (Or.inl ⟨by rfl, ?ybsa4⟩) (by assumption) ?qbsa4
                case ybsa4 => (intro wz hSw; (try dsimp only at hSw); go_simp <;> with_reducible rfl)
                try simp only [Act.put, List.getElem_toArray, List.getElem_cons_zero, List.getElem_cons_succ, List.setIfInBounds_toArray, List.set_cons_zero, List.set_cons_succ]
                refine wpAnyH_take (i := 5) (v := ?_) rfl (by kernel_rfl) (by kernel_rfl) (by kernel_rfl) (fun _ _ _ h => h) (Or.inl ⟨by rfl, ?ybsa5⟩) (by assumption) ?qbsa5
                case ybsa5 => (intro wz hSw; (try dsimp only at hSw); go_simp <;> with_reducible rfl)
                try simp only [Act.put, List.getElem_toArray, List.getElem_cons_zero, List.getElem_cons_succ, List.setIfInBounds_toArray, List.set_cons_zero, List.set_cons_succ]
                refine wpAnyH_take (i := 6) (v := ?_) rfl (by kernel_rfl) (by kernel_rfl) (by kernel_rfl) (fun _ _ _ h => h) (Or.inl ⟨by rfl, ?ybsa6⟩) (by assumption) ?qbsa6
                case ybsa6 => (intro wz hSw; (try dsimp only at hSw); go_simp <;> with_reducible rfl)
                try simp only [Act.put, List.getElem_toArray, List.getElem_cons_zero, List.getElem_cons_succ, List.setIfInBounds_toArray, List.set_cons_zero, List.set_cons_succ]
                refine wpAnyH_take (i := 7) (v := ?_) rfl (by kernel_rfl) (by kernel_rfl) (by kernel_rfl) (fun _ _ _ h => h) (Or.inl ⟨by rfl, ?ybsa7⟩) (by assumption) ?qbsa7
                case ybsa7 => (intro wz hSw; (try dsimp only at hSw); go_simp <;> with_reducible rfl)
                try simp only [Act.put, List.getElem_toArray, List.getElem_cons_zero, List.getElem_cons_succ, List.setIfInBounds_toArray, List.set_cons_zero, List.set_cons_succ]
                refine wpAnyH_take (i := 8) (v := ?_) rfl (by kernel_rfl) (by kernel_rfl) (by kernel_rfl) (fun _ _ _ h => h) (Or.inl ⟨by rfl, ?ybsa8⟩) (by assumption) ?qbsa8
                case ybsa8 => (intro wz hSw; (try dsimp only at hSw); go_simp <;> with_reducible rfl)
                try simp only [Act.put, List.getElem_toArray, List.getElem_cons_zero, List.getElem_cons_succ, List.setIfInBounds_toArray, List.set_cons_zero, List.set_cons_succ]
                refine wpAnyH_take (i := 9) (v := ?_) rfl (by kernel_rfl) (by kernel_rfl) (by kernel_rfl) (fun _ _ _ h => h) (Or.inl ⟨by rfl, ?ybsa9⟩) (by assumption) ?qbsa9
                case ybsa9 => (intro wz hSw; (try dsimp only at hSw); go_simp <;> with_reducible rfl)
                try simp only [Act.put, List.getElem_toArray, List.getElem_cons_zero, List.getElem_cons_succ, List.setIfInBounds_toArray, List.set_cons_zero, List.set_cons_succ]
                refine wpAnyH_take (i := 10) (v := ?_) rfl (by kernel_rfl) (by kernel_rfl) (by kernel_rfl) (fun _ _ _ h => h) (Or.inl ⟨by rfl, ?ybsa10⟩) (by assumption) ?qbsa10
                case ybsa10 => (intro wz hSw; (try dsimp only at hSw); go_simp <;> with_reducible rfl)
                try simp only [Act.put, List.getElem_toArray, List.getElem_cons_zero, List.getElem_cons_succ, List.setIfInBounds_toArray, List.set_cons_zero, List.set_cons_succ]
                refine wpAnyH_take (i := 11) (v := ?_) rfl (by kernel_rfl) (by kernel_rfl) (by kernel_rfl) (fun _ _ _ h => h) (Or.inl ⟨by rfl, ?ybsa11⟩) (by assumption) ?qbsa11
                case ybsa11 => (intro wz hSw; (try dsimp only at hSw); go_simp <;> with_reducible rfl)
                try simp only [Act.put, List.getElem_toArray, List.getElem_cons_zero, List.getElem_cons_succ, List.setIfInBounds_toArray, List.set_cons_zero, List.set_cons_succ]
                refine wpAnyH_take (i := 12) (v := ?_) rfl (by kernel_rfl) (by kernel_rfl) (by kernel_rfl) (fun _ _ _ h => h) (Or.inl ⟨by rfl, ?ybsa12⟩) (by assumption) ?qbsa12
                case ybsa12 => (intro wz hSw; (try dsimp only at hSw); go_simp <;> with_reducible rfl)
                try simp only [Act.put, List.getElem_toArray, List.getElem_cons_zero, List.getElem_cons_succ, List.setIfInBounds_toArray, List.set_cons_zero, List.set_cons_succ]
                refine wpAnyH_take (i := 13) (v := ?_) rfl (by kernel_rfl) (by kernel_rfl) (by kernel_rfl) (fun _ _ _ h => h) (Or.inl ⟨by rfl, ?ybsa13⟩) (by assumption) ?qbsa13
                case ybsa13 => (intro wz hSw; (try dsimp only at hSw); go_simp <;> with_reducible rfl)
                try simp only [Act.put, List.getElem_toArray, List.getElem_cons_zero, List.getElem_cons_succ, List.setIfInBounds_toArray, List.set_cons_zero, List.set_cons_succ]
                refine wpAnyH_take (i := 14) (v := ?_) rfl (by kernel_rfl) (by kernel_rfl) (by kernel_rfl) (fun _ _ _ h => h) (Or.inl ⟨by rfl, ?ybsa14⟩) (by assumption) ?qbsa14
                case ybsa14 => (intro wz hSw; (try dsimp only at hSw); go_simp <;> with_reducible rfl)
                try simp only [Act.put, List.getElem_toArray, List.getElem_cons_zero, List.getElem_cons_succ, List.setIfInBounds_toArray, List.set_cons_zero, List.set_cons_succ]
                refine wpAnyH_take (i := 15) (v := ?_) rfl (by kernel_rfl) (by kernel_rfl) (by kernel_rfl) (fun _ _ _ h => h) (Or.inl ⟨by rfl, ?ybsa15⟩) (by assumption) ?qbsa15
                case ybsa15 => (intro wz hSw; (try dsimp only at hSw); go_simp <;> with_reducible rfl)
                try simp only [Act.put, List.getElem_toArray, List.getElem_cons_zero, List.getElem_cons_succ, List.setIfInBounds_toArray, List.set_cons_zero, List.set_cons_succ]
                refine wpAnyH_take (i := 16) (v := ?_) rfl (by kernel_rfl) (by kernel_rfl) (by kernel_rfl) (fun _ _ _ h => h) (Or.inl ⟨by rfl, ?ybsa16⟩) (by assumption) ?qbsa16
                case ybsa16 => (intro wz hSw; (try dsimp only at hSw); go_simp <;> with_reducible rfl)
                try simp only [Act.put, List.getElem_toArray, List.getElem_cons_zero, List.getElem_cons_succ, List.setIfInBounds_toArray, List.set_cons_zero, List.set_cons_succ]
                refine wpAnyH_take (i := 17) (v := ?_) rfl (by kernel_rfl) (by kernel_rfl) (by kernel_rfl) (fun _ _ _ h => h) (Or.inl ⟨by rfl, ?ybsa17⟩) (by assumption) ?qbsa17
                case ybsa17 => (intro wz hSw; (try dsimp only at hSw); go_simp <;> with_reducible rfl)
                try simp only [Act.put, List.getElem_toArray, List.getElem_cons_zero, List.getElem_cons_succ, List.setIfInBounds_toArray, List.set_cons_zero, List.set_cons_succ]
                refine wpAnyH_take (i := 18) (v := ?_) rfl (by kernel_rfl) (by kernel_rfl) (by kernel_rfl) (fun _ _ _ h => h) (Or.inl ⟨by rfl, ?ybsa18⟩) (by assumption) ?qbsa18
                case ybsa18 => (intro wz hSw; (try dsimp only at hSw); go_simp <;> with_reducible rfl)
                try simp only [Act.put, List.getElem_toArray, List.getElem_cons_zero, List.getElem_cons_succ, List.setIfInBounds_toArray, List.set_cons_zero, List.set_cons_succ]
                refine wpAnyH_take (i := 19) (v := ?_) rfl (by kernel_rfl) (by kernel_rfl) (by kernel_rfl) (fun _ _ _ h => h) (Or.inl ⟨by rfl, ?ybsa19⟩) (by assumption) ?qbsa19
                case ybsa19 => (intro wz hSw; (try dsimp only at hSw); go_simp <;> with_reducible rfl)
                try simp only [Act.put, List.getElem_toArray, List.getElem_cons_zero, List.getElem_cons_succ, List.setIfInBounds_toArray, List.set_cons_zero, List.set_cons_succ]
                refine wpAnyH_take (i := 20) (v := ?_) rfl (by kernel_rfl) (by kernel_rfl) (by kernel_rfl) (fun _ _ _ h => h) (Or.inl ⟨by rfl, ?ybsa20⟩) (by assumption) ?qbsa20
                case ybsa20 => (intro wz hSw; (try dsimp only at hSw); go_simp <;> with_reducible rfl)
                try simp only [Act.put, List.getElem_toArray, List.getElem_cons_zero, List.getElem_cons_succ, List.setIfInBounds_toArray, List.set_cons_zero, List.set_cons_succ]
                refine wpAnyH_take (i := 21) (v := ?_) rfl (by kernel_rfl) (by kernel_rfl) (by kernel_rfl) (fun _ _ _ h => h) (Or.inl ⟨by rfl, ?ybsa21⟩) (by assumption) ?qbsa21
                case ybsa21 => (intro wz hSw; (try dsimp only at hSw); go_simp <;> with_reducible rfl)
                try simp only [Act.put, List.getElem_toArray, List.getElem_cons_zero, List.getElem_cons_succ, List.setIfInBounds_toArray, List.set_cons_zero, List.set_cons_succ]
                refine wpAnyH_take (i := 22) (v := ?_) rfl (by kernel_rfl) (by kernel_rfl) (by kernel_rfl) (fun _ _ _ h => h) (Or.inl ⟨by rfl, ?ybsa22⟩) (by assumption) ?qbsa22
                case ybsa22 => (intro wz hSw; (try dsimp only at hSw); go_simp <;> with_reducible rfl)
                try simp only [Act.put, List.getElem_toArray, List.getElem_cons_zero, List.getElem_cons_succ, List.setIfInBounds_toArray, List.set_cons_zero, List.set_cons_succ]
                refine wpAnyH_take (i := 23) (v := ?_) rfl (by kernel_rfl) (by kernel_rfl) (by kernel_rfl) (fun _ _ _ h => h) (Or.inl ⟨by rfl, ?ybsa23⟩) (by assumption) ?qbsa23
                case ybsa23 => (intro wz hSw; (try dsimp only at hSw); go_simp <;> with_reducible rfl)
                try simp only [Act.put, List.getElem_toArray, List.getElem_cons_zero, List.getElem_cons_succ, List.setIfInBounds_toArray, List.set_cons_zero, List.set_cons_succ]
                refine wpAnyH_done (by kernel_rfl) ?_ _
                have hcz2 : wr.drew.cell? ⟨gz, oz + u, none⟩ = some (.int .i64 0) := hcz
                have hcu2 : wr.drew.cell? ⟨gz, oz + v, none⟩ = some (.int .i64 (m : Int)) := hcu
                go_upto_region 20 with fail
                refine wp_region_held_drew (S := fun X => X.cell? ⟨gz, oz + u, none⟩ = some (.int .i64 0) ∧ X.cell? ⟨gz, oz + v, none⟩ = some (.int .i64 (m : Int))) (by kernel_rfl) ⟨hcz2, hcu2⟩ (fun hHeld1 => ?_)
                refine wpAnyH_take (i := 0) (v := ?_) rfl (by kernel_rfl) (by kernel_rfl) (by kernel_rfl) (fun _ _ _ h => h) (Or.inl ⟨by rfl, ?ybsbt0⟩) (by assumption) ?qbsbt0
                case ybsbt0 => (intro wz hSw; (try dsimp only at hSw); go_simp <;> with_reducible rfl)
                try simp only [Act.put, List.getElem_toArray, List.getElem_cons_zero, List.setIfInBounds_toArray, List.set_cons_zero, List.set_cons_succ]
                refine wpAnyH_take (i := 1) (v := ?_) rfl (by kernel_rfl) (by kernel_rfl) (by kernel_rfl) (fun _ _ _ h => h) (Or.inl ⟨by rfl, ?ybsbt1⟩) (by assumption) ?qbsbt1
                case ybsbt1 => (intro wz hSw; (try dsimp only at hSw); go_simp <;> with_reducible rfl)
                try simp only [Act.put, List.getElem_toArray, List.getElem_cons_zero, List.getElem_cons_succ, List.setIfInBounds_toArray, List.set_cons_zero, List.set_cons_succ]
                refine wpAnyH_take (i := 2) (v := undef) rfl (by kernel_rfl) (by kernel_rfl) (by kernel_rfl) (fun _ _ _ h => h) (Or.inr ⟨by rfl, rfl⟩) (by assumption) ?_
                try simp only [Act.put, List.getElem_toArray, List.getElem_cons_zero, List.getElem_cons_succ, List.setIfInBounds_toArray, List.set_cons_zero, List.set_cons_succ]
                refine wpAnyH_take (i := 3) (v := undef) rfl (by kernel_rfl) (by kernel_rfl) (by kernel_rfl) (fun _ _ _ h => h) (Or.inr ⟨by rfl, rfl⟩) (by assumption) ?_
                try simp only [Act.put, List.getElem_toArray, List.getElem_cons_zero, List.getElem_cons_succ, List.setIfInBounds_toArray, List.set_cons_zero, List.set_cons_succ]
                refine wpAnyH_take (i := 4) (v := undef) rfl (by kernel_rfl) (by kernel_rfl) (by kernel_rfl) (fun _ _ _ h => h) (Or.inr ⟨by rfl, rfl⟩) (by assumption) ?_
                try simp only [Act.put, List.getElem_toArray, List.getElem_cons_zero, List.getElem_cons_succ, List.setIfInBounds_toArray, List.set_cons_zero, List.set_cons_succ]
                refine wpAnyH_take (i := 5) (v := undef) rfl (by kernel_rfl) (by kernel_rfl) (by kernel_rfl) (fun _ _ _ h => h) (Or.inr ⟨by rfl, rfl⟩) (by assumption) ?_
                try simp only [Act.put, List.getElem_toArray, List.getElem_cons_zero, List.getElem_cons_succ, List.setIfInBounds_toArray, List.set_cons_zero, List.set_cons_succ]
                refine wpAnyH_take (i := 6) (v := undef) rfl (by kernel_rfl) (by kernel_rfl) (by kernel_rfl) (fun _ _ _ h => h) (Or.inr ⟨by rfl, rfl⟩) (by assumption) ?_
                try simp only [Act.put, List.getElem_toArray, List.getElem_cons_zero, List.getElem_cons_succ, List.setIfInBounds_toArray, List.set_cons_zero, List.set_cons_succ]
                refine wpAnyH_take (i := 7) (v := undef) rfl (by kernel_rfl) (by kernel_rfl) (by kernel_rfl) (fun _ _ _ h => h) (Or.inr ⟨by rfl, rfl⟩) (by assumption) ?_
                try simp only [Act.put, List.getElem_toArray, List.getElem_cons_zero, List.getElem_cons_succ, List.setIfInBounds_toArray, List.set_cons_zero, List.set_cons_succ]
                refine wpAnyH_take (i := 8) (v := undef) rfl (by kernel_rfl) (by kernel_rfl) (by kernel_rfl) (fun _ _ _ h => h) (Or.inr ⟨by rfl, rfl⟩) (by assumption) ?_
                try simp only [Act.put, List.getElem_toArray, List.getElem_cons_zero, List.getElem_cons_succ, List.setIfInBounds_toArray, List.set_cons_zero, List.set_cons_succ]
                refine wpAnyH_take (i := 9) (v := undef) rfl (by kernel_rfl) (by kernel_rfl) (by kernel_rfl) (fun _ _ _ h => h) (Or.inr ⟨by rfl, rfl⟩) (by assumption) ?_
                try simp only [Act.put, List.getElem_toArray, List.getElem_cons_zero, List.getElem_cons_succ, List.setIfInBounds_toArray, List.set_cons_zero, List.set_cons_succ]
                refine wpAnyH_take (i := 10) (v := undef) rfl (by kernel_rfl) (by kernel_rfl) (by kernel_rfl) (fun _ _ _ h => h) (Or.inr ⟨by rfl, rfl⟩) (by assumption) ?_
                try simp only [Act.put, List.getElem_toArray, List.getElem_cons_zero, List.getElem_cons_succ, List.setIfInBounds_toArray, List.set_cons_zero, List.set_cons_succ]
                refine wpAnyH_take (i := 11) (v := undef) rfl (by kernel_rfl) (by kernel_rfl) (by kernel_rfl) (fun _ _ _ h => h) (Or.inr ⟨by rfl, rfl⟩) (by assumption) ?_
                try simp only [Act.put, List.getElem_toArray, List.getElem_cons_zero, List.getElem_cons_succ, List.setIfInBounds_toArray, List.set_cons_zero, List.set_cons_succ]
                refine wpAnyH_take (i := 12) (v := ?_) rfl (by kernel_rfl) (by kernel_rfl) (by kernel_rfl) (fun _ _ _ h => h) (Or.inl ⟨by rfl, ?ybsbt12⟩) (by assumption) ?qbsbt12
                case ybsbt12 => (intro wz hSw; (try dsimp only at hSw); go_simp <;> with_reducible rfl)
                try simp only [Act.put, List.getElem_toArray, List.getElem_cons_zero, List.getElem_cons_succ, List.setIfInBounds_toArray, List.set_cons_zero, List.set_cons_succ]
                refine wpAnyH_take (i := 13) (v := ?_) rfl (by kernel_rfl) (by kernel_rfl) (by kernel_rfl) (fun _ _ _ h => h) (Or.inl ⟨by rfl, ?ybsbt13⟩) (by assumption) ?qbsbt13
                case ybsbt13 => (intro wz hSw; (try dsimp only at hSw); go_simp <;> with_reducible rfl)
                try simp only [Act.put, List.getElem_toArray, List.getElem_cons_zero, List.getElem_cons_succ, List.setIfInBounds_toArray, List.set_cons_zero, List.set_cons_succ]
                refine wpAnyH_done (by kernel_rfl) ?_ _
                have HN : Hid (Below w4.heap.size w4 wr.drew.drew) := Lib.hid (below_drewN (below_drewN HBJ.out 1) 1)
                go_wp2_with fail
                go_roundw
                case rel => exact ⟨j + 1, _, by go_num, rfl, hlj, Lib.hid ⟨by rw [HSB.out]; first | rfl | (rw [Bool.eq_iff_iff]; simp; done) | (rw [HWK.out]; rw [Bool.eq_iff_iff]; simp; done) | (rw [HWK.out]; rw [Bool.eq_iff_iff]; simp; omega), HN.out⟩⟩
                case measure => simp [intOf]; omega
            · have e : M = j := by omega
              subst e
              have HBI : Hid (Below w3.heap.size w3 wr) := Lib.hid (HB4.out.trans (HJ.out.2.mono HB4.out.size))
              have hb := HJ.out.1
              have hcz := (HZ.out wr HBI.out u hun).2
              have hgz := (HZ.out wr HBI.out u hun).1
              rw [HDU.out] at hcz
              clear HV HVS HJ hb
              go_wp2_with fail
              go_roundw
              case rel => exact ⟨u + 1, by go_num, hun, HBI⟩
              case measure => simp [intOf]; omega
        | succ k =>
          have hut : ¬ ((u : Int) = to_) := fun e => by have := (HIN.out.zero u (k + 1) hfu).2 e; omega
          have HDU : Hid (stepI (d (2 * u)) = (k : Int) + 1) := Lib.hid (by rw [hfu]; rfl)
          have HSTEP := Lib.hid (HST.out u ((k : Int) + 1) (fun k' hk => by rw [hfu] at hk; injection hk with hk; omega) (HNONE.out u))
          have HALL : Hid (∀ vs, vs = sideO (ofA q mask) (u : Int) false → stB false d ((k : Int) + 1) vs vs.length = true) := Lib.hid fun vs hvs => by
            obtain ⟨x, hx, hx2, hx3, hx4⟩ := HIN.out.arc HRT.out hfu
            refine stB_all (z := x.to) (by rw [hvs]; exact mem_next.2 ⟨x, hx, hx2, rfl⟩) ?_
            have hx5 : d (2 * x.to.toNat) = some k := hx3
            rw [hx5]
            show (k : Int) = (k : Int) + 1 - 1
            omega
          have hk1 : (0 : Int) ≤ (k : Int) := by omega
          have HWK : Hid (IntKind.i64.wrap (k : Int) = (k : Int)) := Lib.hid (by rw [IntKind.wrap_i64]; omega)
          have hk2 : (k : Int) ≤ 100000 := by omega
          rw [HDU.out] at hcz
          clear hfu hkb
          go_wp2_with fail
          refine (HNX.out wr HBR.out u).mono ?_
          rintro e w4 ⟨lv, rfl, ho, hb⟩
          have HB4 := Lib.hid (HBR.out.trans (hb.mono HBR.out.size))
          obtain ⟨vs, hvs⟩ : ∃ vs, vs = sideO (ofA q mask) (u : Int) false := ⟨_, rfl⟩
          rw [← hvs] at ho
          have hvl : vs.length ≤ 100 := by rw [hvs]; have h1 := sideO_len (ofA q mask) (u : Int) false; have h2 := HLN.out; omega
          obtain ⟨pv, cv, hlv, _, hcv⟩ := (ho.ints (by omega)).open_
          subst hlv
          have HV : Hid (∀ j, j < vs.length → ∃ g o, pv = some ⟨g, o, none⟩ ∧ g < w4.heap.size ∧ w4.cell? ⟨g, o + j, none⟩ = some (.int .i64 (vs.getD j 0))) := Lib.hid fun j hj => by obtain ⟨g, o, h1, _, h2, h3⟩ := hcv j hj; exact ⟨g, o, h1, h2, h3⟩
          have HVS : Hid (vs = sideO (ofA q mask) (u : Int) false) := Lib.hid hvs
          obtain ⟨M, hM⟩ : ∃ M, M = vs.length := ⟨_, rfl⟩
          have HM := Lib.hid hM
          rw [← hM] at HV hvl ⊢
          have hMi : (M : Int) ≤ 100 := by omega
          clear ho hb hvs hcv hM hvl
          go_wp2_with fail
          go_loopw [14, 68] (fun s14 s68 wi => ∃ (j : Nat) (bb : Bool), s68 = .int .i64 (j : Int) ∧ s14 = .bool bb ∧ j ≤ M ∧ Hid (bb = stB false d ((k : Int) + 1) vs j ∧ Below w4.heap.size w4 wi)) (fun _ s68 _ => M - (intOf s68).toNat)
          case atStart => exact ⟨0, _, rfl, rfl, Nat.zero_le _, Lib.hid ⟨by simp [stB, hut]; omega, Below.refl _ _⟩⟩
          case round =>
            obtain ⟨j, bb, rfl, rfl, hj, HJ⟩ := hrel
            by_cases hlj : j < M
            · obtain ⟨gv, ov, rfl, hgv, hcv⟩ := HV.out j hlj
              have hbw := HJ.out.2
              have hcv := (hbw.cell (p := ⟨gv, _, none⟩) hgv).trans hcv
              have hgv := Nat.lt_of_lt_of_le hgv hbw.size
              obtain ⟨v, hzv, hvN, hnr⟩ := HSTEP.out vs HVS.out j (by have := HM.out; omega)
              rw [hzv] at hcv
              have hvNi : (v : Int) < (N : Int) := by omega
              have hjI : (j : Int) < (M : Int) := by omega
              have HBI : Hid (Below w3.heap.size w3 wr) := Lib.hid (HB4.out.trans (hbw.mono HB4.out.size))
              have hcz := (HZ.out wr HBI.out u hun).2
              have hcu := (HZ.out wr HBI.out v hvN).2
              have hgz := (HZ.out wr HBI.out v hvN).1
              rw [HDU.out] at hcz
              have HBJ := Lib.hid hbw
              have HSB : Hid (stB false d ((k : Int) + 1) vs (j + 1) = (bb || decide (stepI (d (2 * v)) = ((k : Int) + 1) - 1))) := Lib.hid (by rw [HJ.out.1]; exact stB_succ false (by have := HM.out; omega) hzv)
              clear hbw hzv HJ
              cases hfv : d (2 * v) with
              | none =>
                rw [hfv] at hcu HSB hnr
                unfold stepI at hcu HSB
                simp only at hcu HSB
                clear hfv hnr
                go_upto_region 18 with fail
                refine wp_region_held_drew (S := fun X => X.cell? ⟨gz, oz + u, none⟩ = some (.int .i64 ((k : Int) + 1)) ∧ X.cell? ⟨gz, oz + v, none⟩ = some (.int .i64 (-1))) (by kernel_rfl) ⟨hcz, hcu⟩ (fun hHeld0 => ?_)
                refine wpAnyH_take (i := 0) (v := ?_) rfl (by kernel_rfl) (by kernel_rfl) (by kernel_rfl) (fun _ _ _ h => h) (Or.inl ⟨by rfl, ?ycna0⟩) (by assumption) ?qcna0
                case ycna0 => (intro wz hSw; (try dsimp only at hSw); go_simp <;> with_reducible rfl)
                try simp only [Act.put, List.getElem_toArray, List.getElem_cons_zero, List.setIfInBounds_toArray, List.set_cons_zero, List.set_cons_succ]
                refine wpAnyH_take (i := 1) (v := ?_) rfl (by kernel_rfl) (by kernel_rfl) (by kernel_rfl) (fun _ _ _ h => h) (Or.inl ⟨by rfl, ?ycna1⟩) (by assumption) ?qcna1
                case ycna1 => (intro wz hSw; (try dsimp only at hSw); go_simp <;> with_reducible rfl)
                try simp only [Act.put, List.getElem_toArray, List.getElem_cons_zero, List.getElem_cons_succ, List.setIfInBounds_toArray, List.set_cons_zero, List.set_cons_succ]
                refine wpAnyH_take (i := 2) (v := ?_) rfl (by kernel_rfl) (by kernel_rfl) (by kernel_rfl) (fun _ _ _ h => h) (Or.inl ⟨by rfl, ?ycna2⟩) (by assumption) ?qcna2
                case ycna2 => (intro wz hSw; (try dsimp only at hSw); go_simp <;> with_reducible rfl)
                try simp only [Act.put, List.getElem_toArray, List.getElem_cons_zero, List.getElem_cons_succ, List.setIfInBounds_toArray, List.set_cons_zero, List.set_cons_succ]
                refine wpAnyH_take (i := 3) (v := ?_) rfl (by kernel_rfl) (by kernel_rfl) (by kernel_rfl) (fun _ _ _ h => h) (Or.inl ⟨by rfl, ?ycna3⟩) (by assumption) ?qcna3
                case ycna3 => (intro wz hSw; (try dsimp only at hSw); go_simp <;> with_reducible rfl)
                try simp only [Act.put, List.getElem_toArray, List.getElem_cons_zero, List.getElem_cons_succ, List.setIfInBounds_toArray, List.set_cons_zero, List.set_cons_succ]
                refine wpAnyH_take (i := 4) (v := ?_) rfl (by kernel_rfl) (by kernel_rfl) (by kernel_rfl) (fun _ _ _ h => h) (Or.inl ⟨by rfl, ?ycna4⟩) (by assumption) ?qcna4
                case ycna4 => (intro wz hSw; (try dsimp only at hSw); go_simp <;> with_reducible rfl)
                try simp only [Act.put, List.getElem_toArray, List.getElem_cons_zero, List.getElem_cons_succ, List.setIfInBounds_toArray, List.set_cons_zero, List.set_cons_succ]
                refine wpAnyH_take (i := 5) (v := ?_) rfl (by kernel_rfl) (by kernel_rfl) (by kernel_rfl) (fun _ _ _ h => h) (Or.inl ⟨by rfl, ?ycna5⟩) (by assumption) ?qcna5
                case ycna5 => (intro wz hSw; (try dsimp only at hSw); go_simp <;> with_reducible rfl)
                try simp only [Act.put, List.getElem_toArray, List.getElem_cons_zero, List.getElem_cons_succ, List.setIfInBounds_toArray, List.set_cons_zero, List.set_cons_succ]
                refine wpAnyH_take (i := 6) (v := undef) rfl (by kernel_rfl) (by kernel_rfl) (by kernel_rfl) (fun _ _ _ h => h) (Or.inr ⟨by rfl, rfl⟩) (by assumption) ?_
                try simp only [Act.put, List.getElem_toArray, List.getElem_cons_zero, List.getElem_cons_succ, List.setIfInBounds_toArray, List.set_cons_zero, List.set_cons_succ]
                refine wpAnyH_take (i := 7) (v := undef) rfl (by kernel_rfl) (by kernel_rfl) (by kernel_rfl) (fun _ _ _ h => h) (Or.inr ⟨by rfl, rfl⟩) (by assumption) ?_
                try simp only [Act.put, List.getElem_toArray, List.getElem_cons_zero, List.getElem_cons_succ, List.setIfInBounds_toArray, List.set_cons_zero, List.set_cons_succ]
                refine wpAnyH_take (i := 8) (v := undef) rfl (by kernel_rfl) (by kernel_rfl) (by kernel_rfl) (fun _ _ _ h => h) (Or.inr ⟨by rfl, rfl⟩) (by assumption) ?_
                try simp only [Act.put, List.getElem_toArray, List.getElem_cons_zero, List.getElem_cons_succ, List.setIfInBounds_toArray, List.set_cons_zero, List.set_cons_succ]
                refine wpAnyH_take (i := 9) (v := undef) rfl (by kernel_rfl) (by kernel_rfl) (by kernel_rfl) (fun _ _ _ h => h) (Or.inr ⟨by rfl, rfl⟩) (by assumption) ?_
                try simp only [Act.put, List.getElem_toArray, List.getElem_cons_zero, List.getElem_cons_succ, List.setIfInBounds_toArray, List.set_cons_zero, List.set_cons_succ]
                refine wpAnyH_take (i := 10) (v := undef) rfl (by kernel_rfl) (by kernel_rfl) (by kernel_rfl) (fun _ _ _ h => h) (Or.inr ⟨by rfl, rfl⟩) (by assumption) ?_
                try simp only [Act.put, List.getElem_toArray, List.getElem_cons_zero, List.getElem_cons_succ, List.setIfInBounds_toArray, List.set_cons_zero, List.set_cons_succ]
                refine wpAnyH_take (i := 11) (v := undef) rfl (by kernel_rfl) (by kernel_rfl) (by kernel_rfl) (fun _ _ _ h => h) (Or.inr ⟨by rfl, rfl⟩) (by assumption) ?_
                try simp only [Act.put, List.getElem_toArray, List.getElem_cons_zero, List.getElem_cons_succ, List.setIfInBounds_toArray, List.set_cons_zero, List.set_cons_succ]
                refine wpAnyH_take (i := 12) (v := undef) rfl (by kernel_rfl) (by kernel_rfl) (by kernel_rfl) (fun _ _ _ h => h) (Or.inr ⟨by rfl, rfl⟩) (by assumption) ?_
                try simp only [Act.put, List.getElem_toArray, List.getElem_cons_zero, List.getElem_cons_succ, List.setIfInBounds_toArray, List.set_cons_zero, List.set_cons_succ]
                refine wpAnyH_take (i := 13) (v := undef) rfl (by kernel_rfl) (by kernel_rfl) (by kernel_rfl) (fun _ _ _ h => h) (Or.inr ⟨by rfl, rfl⟩) (by assumption) ?_
                try simp only [Act.put, List.getElem_toArray, List.getElem_cons_zero, List.getElem_cons_succ, List.setIfInBounds_toArray, List.set_cons_zero, List.set_cons_succ]
                refine wpAnyH_take (i := 14) (v := undef) rfl (by kernel_rfl) (by kernel_rfl) (by kernel_rfl) (fun _ _ _ h => h) (Or.inr ⟨by rfl, rfl⟩) (by assumption) ?_
                try simp only [Act.put, List.getElem_toArray, List.getElem_cons_zero, List.getElem_cons_succ, List.setIfInBounds_toArray, List.set_cons_zero, List.set_cons_succ]
                refine wpAnyH_take (i := 15) (v := undef) rfl (by kernel_rfl) (by kernel_rfl) (by kernel_rfl) (fun _ _ _ h => h) (Or.inr ⟨by rfl, rfl⟩) (by assumption) ?_
                try simp only [Act.put, List.getElem_toArray, List.getElem_cons_zero, List.getElem_cons_succ, List.setIfInBounds_toArray, List.set_cons_zero, List.set_cons_succ]
                refine wpAnyH_take (i := 16) (v := undef) rfl (by kernel_rfl) (by kernel_rfl) (by kernel_rfl) (fun _ _ _ h => h) (Or.inr ⟨by rfl, rfl⟩) (by assumption) ?_
                try simp only [Act.put, List.getElem_toArray, List.getElem_cons_zero, List.getElem_cons_succ, List.setIfInBounds_toArray, List.set_cons_zero, List.set_cons_succ]
                refine wpAnyH_take (i := 17) (v := undef) rfl (by kernel_rfl) (by kernel_rfl) (by kernel_rfl) (fun _ _ _ h => h) (Or.inr ⟨by rfl, rfl⟩) (by assumption) ?_
                try simp only [Act.put, List.getElem_toArray, List.getElem_cons_zero, List.getElem_cons_succ, List.setIfInBounds_toArray, List.set_cons_zero, List.set_cons_succ]
                refine wpAnyH_take (i := 18) (v := undef) rfl (by kernel_rfl) (by kernel_rfl) (by kernel_rfl) (fun _ _ _ h => h) (Or.inr ⟨by rfl, rfl⟩) (by assumption) ?_
                try simp only [Act.put, List.getElem_toArray, List.getElem_cons_zero, List.getElem_cons_succ, List.setIfInBounds_toArray, List.set_cons_zero, List.set_cons_succ]
                refine wpAnyH_take (i := 19) (v := undef) rfl (by kernel_rfl) (by kernel_rfl) (by kernel_rfl) (fun _ _ _ h => h) (Or.inr ⟨by rfl, rfl⟩) (by assumption) ?_
                try simp only [Act.put, List.getElem_toArray, List.getElem_cons_zero, List.getElem_cons_succ, List.setIfInBounds_toArray, List.set_cons_zero, List.set_cons_succ]
                refine wpAnyH_take (i := 20) (v := undef) rfl (by kernel_rfl) (by kernel_rfl) (by kernel_rfl) (fun _ _ _ h => h) (Or.inr ⟨by rfl, rfl⟩) (by assumption) ?_
                try simp only [Act.put, List.getElem_toArray, List.getElem_cons_zero, List.getElem_cons_succ, List.setIfInBounds_toArray, List.set_cons_zero, List.set_cons_succ]
                refine wpAnyH_take (i := 21) (v := undef) rfl (by kernel_rfl) (by kernel_rfl) (by kernel_rfl) (fun _ _ _ h => h) (Or.inr ⟨by rfl, rfl⟩) (by assumption) ?_
                try simp only [Act.put, List.getElem_toArray, List.getElem_cons_zero, List.getElem_cons_succ, List.setIfInBounds_toArray, List.set_cons_zero, List.set_cons_succ]
                refine wpAnyH_take (i := 22) (v := undef) rfl (by kernel_rfl) (by kernel_rfl) (by kernel_rfl) (fun _ _ _ h => h) (Or.inr ⟨by rfl, rfl⟩) (by assumption) ?_
                try simp only [Act.put, List.getElem_toArray, List.getElem_cons_zero, List.getElem_cons_succ, List.setIfInBounds_toArray, List.set_cons_zero, List.set_cons_succ]
                refine wpAnyH_take (i := 23) (v := ?_) rfl (by kernel_rfl) (by kernel_rfl) (by kernel_rfl) (fun _ _ _ h => h) (Or.inl ⟨by rfl, ?ycna23⟩) (by assumption) ?qcna23
                case ycna23 => (intro wz hSw; (try dsimp only at hSw); go_simp <;> with_reducible rfl)
                try simp only [Act.put, List.getElem_toArray, List.getElem_cons_zero, List.getElem_cons_succ, List.setIfInBounds_toArray, List.set_cons_zero, List.set_cons_succ]
                refine wpAnyH_done (by kernel_rfl) ?_ _
                have hcz2 : wr.drew.cell? ⟨gz, oz + u, none⟩ = some (.int .i64 ((k : Int) + 1)) := hcz
                have hcu2 : wr.drew.cell? ⟨gz, oz + v, none⟩ = some (.int .i64 (-1)) := hcu
                cases bb with
                | true =>
                  go_upto_region 20 with fail
                  refine wp_region_held_drew (S := fun X => X.cell? ⟨gz, oz + u, none⟩ = some (.int .i64 ((k : Int) + 1)) ∧ X.cell? ⟨gz, oz + v, none⟩ = some (.int .i64 (-1))) (by kernel_rfl) ⟨hcz2, hcu2⟩ (fun hHeld1 => ?_)
                  refine wpAnyH_take (i := 0) (v := ?_) rfl (by kernel_rfl) (by kernel_rfl) (by kernel_rfl) (fun _ _ _ h => h) (Or.inl ⟨by rfl, ?ycnbt0⟩) (by assumption) ?qcnbt0
                  case ycnbt0 => (intro wz hSw; (try dsimp only at hSw); go_simp <;> with_reducible rfl)
                  try simp only [Act.put, List.getElem_toArray, List.getElem_cons_zero, List.setIfInBounds_toArray, List.set_cons_zero, List.set_cons_succ]
                  refine wpAnyH_take (i := 1) (v := ?_) rfl (by kernel_rfl) (by kernel_rfl) (by kernel_rfl) (fun _ _ _ h => h) (Or.inl ⟨by rfl, ?ycnbt1⟩) (by assumption) ?qcnbt1
                  case ycnbt1 => (intro wz hSw; (try dsimp only at hSw); go_simp <;> with_reducible rfl)
                  try simp only [Act.put, List.getElem_toArray, List.getElem_cons_zero, List.getElem_cons_succ, List.setIfInBounds_toArray, List.set_cons_zero, List.set_cons_succ]
                  refine wpAnyH_take (i := 2) (v := undef) rfl (by kernel_rfl) (by kernel_rfl) (by kernel_rfl) (fun _ _ _ h => h) (Or.inr ⟨by rfl, rfl⟩) (by assumption) ?_
                  try simp only [Act.put, List.getElem_toArray, List.getElem_cons_zero, List.getElem_cons_succ, List.setIfInBounds_toArray, List.set_cons_zero, List.set_cons_succ]
                  refine wpAnyH_take (i := 3) (v := undef) rfl (by kernel_rfl) (by kernel_rfl) (by kernel_rfl) (fun _ _ _ h => h) (Or.inr ⟨by rfl, rfl⟩) (by assumption) ?_
                  try simp only [Act.put, List.getElem_toArray, List.getElem_cons_zero, List.getElem_cons_succ, List.setIfInBounds_toArray, List.set_cons_zero, List.set_cons_succ]
                  refine wpAnyH_take (i := 4) (v := undef) rfl (by kernel_rfl) (by kernel_rfl) (by kernel_rfl) (fun _ _ _ h => h) (Or.inr ⟨by rfl, rfl⟩) (by assumption) ?_
                  try simp only [Act.put, List.getElem_toArray, List.getElem_cons_zero, List.getElem_cons_succ, List.setIfInBounds_toArray, List.set_cons_zero, List.set_cons_succ]
                  refine wpAnyH_take (i := 5) (v := undef) rfl (by kernel_rfl) (by kernel_rfl) (by kernel_rfl) (fun _ _ _ h => h) (Or.inr ⟨by rfl, rfl⟩) (by assumption) ?_
                  try simp only [Act.put, List.getElem_toArray, List.getElem_cons_zero, List.getElem_cons_succ, List.setIfInBounds_toArray, List.set_cons_zero, List.set_cons_succ]
                  refine wpAnyH_take (i := 6) (v := undef) rfl (by kernel_rfl) (by kernel_rfl) (by kernel_rfl) (fun _ _ _ h => h) (Or.inr ⟨by rfl, rfl⟩) (by assumption) ?_
                  try simp only [Act.put, List.getElem_toArray, List.getElem_cons_zero, List.getElem_cons_succ, List.setIfInBounds_toArray, List.set_cons_zero, List.set_cons_succ]
                  refine wpAnyH_take (i := 7) (v := undef) rfl (by kernel_rfl) (by kernel_rfl) (by kernel_rfl) (fun _ _ _ h => h) (Or.inr ⟨by rfl, rfl⟩) (by assumption) ?_
                  try simp only [Act.put, List.getElem_toArray, List.getElem_cons_zero, List.getElem_cons_succ, List.setIfInBounds_toArray, List.set_cons_zero, List.set_cons_succ]
                  refine wpAnyH_take (i := 8) (v := undef) rfl (by kernel_rfl) (by kernel_rfl) (by kernel_rfl) (fun _ _ _ h => h) (Or.inr ⟨by rfl, rfl⟩) (by assumption) ?_
                  try simp only [Act.put, List.getElem_toArray, List.getElem_cons_zero, List.getElem_cons_succ, List.setIfInBounds_toArray, List.set_cons_zero, List.set_cons_succ]
                  refine wpAnyH_take (i := 9) (v := undef) rfl (by kernel_rfl) (by kernel_rfl) (by kernel_rfl) (fun _ _ _ h => h) (Or.inr ⟨by rfl, rfl⟩) (by assumption) ?_
                  try simp only [Act.put, List.getElem_toArray, List.getElem_cons_zero, List.getElem_cons_succ, List.setIfInBounds_toArray, List.set_cons_zero, List.set_cons_succ]
                  refine wpAnyH_take (i := 10) (v := undef) rfl (by kernel_rfl) (by kernel_rfl) (by kernel_rfl) (fun _ _ _ h => h) (Or.inr ⟨by rfl, rfl⟩) (by assumption) ?_
                  try simp only [Act.put, List.getElem_toArray, List.getElem_cons_zero, List.getElem_cons_succ, List.setIfInBounds_toArray, List.set_cons_zero, List.set_cons_succ]
                  refine wpAnyH_take (i := 11) (v := undef) rfl (by kernel_rfl) (by kernel_rfl) (by kernel_rfl) (fun _ _ _ h => h) (Or.inr ⟨by rfl, rfl⟩) (by assumption) ?_
                  try simp only [Act.put, List.getElem_toArray, List.getElem_cons_zero, List.getElem_cons_succ, List.setIfInBounds_toArray, List.set_cons_zero, List.set_cons_succ]
                  refine wpAnyH_take (i := 12) (v := ?_) rfl (by kernel_rfl) (by kernel_rfl) (by kernel_rfl) (fun _ _ _ h => h) (Or.inl ⟨by rfl, ?ycnbt12⟩) (by assumption) ?qcnbt12
                  case ycnbt12 => (intro wz hSw; (try dsimp only at hSw); go_simp <;> with_reducible rfl)
                  try simp only [Act.put, List.getElem_toArray, List.getElem_cons_zero, List.getElem_cons_succ, List.setIfInBounds_toArray, List.set_cons_zero, List.set_cons_succ]
                  refine wpAnyH_take (i := 13) (v := ?_) rfl (by kernel_rfl) (by kernel_rfl) (by kernel_rfl) (fun _ _ _ h => h) (Or.inl ⟨by rfl, ?ycnbt13⟩) (by assumption) ?qcnbt13
                  case ycnbt13 => (intro wz hSw; (try dsimp only at hSw); go_simp <;> with_reducible rfl)
                  try simp only [Act.put, List.getElem_toArray, List.getElem_cons_zero, List.getElem_cons_succ, List.setIfInBounds_toArray, List.set_cons_zero, List.set_cons_succ]
                  refine wpAnyH_done (by kernel_rfl) ?_ _
                  have HN : Hid (Below w4.heap.size w4 wr.drew.drew) := Lib.hid (below_drewN (below_drewN HBJ.out 1) 1)
                  go_wp2_with fail
                  go_roundw
                  case rel => exact ⟨j + 1, _, by go_num, rfl, hlj, Lib.hid ⟨by rw [HSB.out]; first | rfl | (rw [Bool.eq_iff_iff]; simp; done) | (rw [HWK.out]; rw [Bool.eq_iff_iff]; simp; done) | (rw [HWK.out]; rw [Bool.eq_iff_iff]; simp; omega), HN.out⟩⟩
                  case measure => simp [intOf]; omega
                | false =>
                  go_upto_region 20 with fail
                  refine wp_region_held_drew (S := fun X => X.cell? ⟨gz, oz + u, none⟩ = some (.int .i64 ((k : Int) + 1)) ∧ X.cell? ⟨gz, oz + v, none⟩ = some (.int .i64 (-1))) (by kernel_rfl) ⟨hcz2, hcu2⟩ (fun hHeld1 => ?_)
                  refine wpAnyH_take (i := 0) (v := ?_) rfl (by kernel_rfl) (by kernel_rfl) (by kernel_rfl) (fun _ _ _ h => h) (Or.inl ⟨by rfl, ?ycnbf0⟩) (by assumption) ?qcnbf0
                  case ycnbf0 => (intro wz hSw; (try dsimp only at hSw); go_simp <;> with_reducible rfl)
                  try simp only [Act.put, List.getElem_toArray, List.getElem_cons_zero, List.setIfInBounds_toArray, List.set_cons_zero, List.set_cons_succ]
                  refine wpAnyH_take (i := 1) (v := ?_) rfl (by kernel_rfl) (by kernel_rfl) (by kernel_rfl) (fun _ _ _ h => h) (Or.inl ⟨by rfl, ?ycnbf1⟩) (by assumption) ?qcnbf1
                  case ycnbf1 => (intro wz hSw; (try dsimp only at hSw); go_simp <;> with_reducible rfl)
                  try simp only [Act.put, List.getElem_toArray, List.getElem_cons_zero, List.getElem_cons_succ, List.setIfInBounds_toArray, List.set_cons_zero, List.set_cons_succ]
                  refine wpAnyH_take (i := 2) (v := ?_) rfl (by kernel_rfl) (by kernel_rfl) (by kernel_rfl) (fun _ _ _ h => h) (Or.inl ⟨by rfl, ?ycnbf2⟩) (by assumption) ?qcnbf2
                  case ycnbf2 => (intro wz hSw; (try dsimp only at hSw); go_simp <;> with_reducible rfl)
                  try simp only [Act.put, List.getElem_toArray, List.getElem_cons_zero, List.getElem_cons_succ, List.setIfInBounds_toArray, List.set_cons_zero, List.set_cons_succ]
                  refine wpAnyH_take (i := 3) (v := ?_) rfl (by kernel_rfl) (by kernel_rfl) (by kernel_rfl) (fun _ _ _ h => h) (Or.inl ⟨by rfl, ?ycnbf3⟩) (by assumption) ?qcnbf3
                  case ycnbf3 => (intro wz hSw; (try dsimp only at hSw); go_simp <;> with_reducible rfl)
                  try simp only [Act.put, List.getElem_toArray, List.getElem_cons_zero, List.getElem_cons_succ, List.setIfInBounds_toArray, List.set_cons_zero, List.set_cons_succ]
                  refine wpAnyH_take (i := 4) (v := ?_) rfl (by kernel_rfl) (by kernel_rfl) (by kernel_rfl) (fun _ _ _ h => h) (Or.inl ⟨by rfl, ?ycnbf4⟩) (by assumption) ?qcnbf4
                  case ycnbf4 => (intro wz hSw; (try dsimp only at hSw); go_simp <;> with_reducible rfl)
                  try simp only [Act.put, List.getElem_toArray, List.getElem_cons_zero, List.getElem_cons_succ, List.setIfInBounds_toArray, List.set_cons_zero, List.set_cons_succ]
                  refine wpAnyH_take (i := 5) (v := ?_) rfl (by kernel_rfl) (by kernel_rfl) (by kernel_rfl) (fun _ _ _ h => h) (Or.inl ⟨by rfl, ?ycnbf5⟩) (by assumption) ?qcnbf5
                  case ycnbf5 => (intro wz hSw; (try dsimp only at hSw); go_simp <;> with_reducible rfl)
                  try simp only [Act.put, List.getElem_toArray, List.getElem_cons_zero, List.getElem_cons_succ, List.setIfInBounds_toArray, List.set_cons_zero, List.set_cons_succ]
                  refine wpAnyH_take (i := 6) (v := ?_) rfl (by kernel_rfl) (by kernel_rfl) (by kernel_rfl) (fun _ _ _ h => h) (Or.inl ⟨by rfl, ?ycnbf6⟩) (by assumption) ?qcnbf6
                  case ycnbf6 => (intro wz hSw; (try dsimp only at hSw); go_simp <;> with_reducible rfl)
                  try simp only [Act.put, List.getElem_toArray, List.getElem_cons_zero, List.getElem_cons_succ, List.setIfInBounds_toArray, List.set_cons_zero, List.set_cons_succ]
                  refine wpAnyH_take (i := 7) (v := ?_) rfl (by kernel_rfl) (by kernel_rfl) (by kernel_rfl) (fun _ _ _ h => h) (Or.inl ⟨by rfl, ?ycnbf7⟩) (by assumption) ?qcnbf7
                  case ycnbf7 => (intro wz hSw; (try dsimp only at hSw); go_simp <;> with_reducible rfl)
                  try simp only [Act.put, List.getElem_toArray, List.getElem_cons_zero, List.getElem_cons_succ, List.setIfInBounds_toArray, List.set_cons_zero, List.set_cons_succ]
                  refine wpAnyH_take (i := 8) (v := ?_) rfl (by kernel_rfl) (by kernel_rfl) (by kernel_rfl) (fun _ _ _ h => h) (Or.inl ⟨by rfl, ?ycnbf8⟩) (by assumption) ?qcnbf8
                  case ycnbf8 => (intro wz hSw; (try dsimp only at hSw); go_simp <;> with_reducible rfl)
                  try simp only [Act.put, List.getElem_toArray, List.getElem_cons_zero, List.getElem_cons_succ, List.setIfInBounds_toArray, List.set_cons_zero, List.set_cons_succ]
                  refine wpAnyH_take (i := 9) (v := ?_) rfl (by kernel_rfl) (by kernel_rfl) (by kernel_rfl) (fun _ _ _ h => h) (Or.inl ⟨by rfl, ?ycnbf9⟩) (by assumption) ?qcnbf9
                  case ycnbf9 => (intro wz hSw; (try dsimp only at hSw); go_simp <;> with_reducible rfl)
                  try simp only [Act.put, List.getElem_toArray, List.getElem_cons_zero, List.getElem_cons_succ, List.setIfInBounds_toArray, List.set_cons_zero, List.set_cons_succ]
                  refine wpAnyH_take (i := 10) (v := ?_) rfl (by kernel_rfl) (by kernel_rfl) (by kernel_rfl) (fun _ _ _ h => h) (Or.inl ⟨by rfl, ?ycnbf10⟩) (by assumption) ?qcnbf10
                  case ycnbf10 => (intro wz hSw; (try dsimp only at hSw); go_simp <;> with_reducible rfl)
                  try simp only [Act.put, List.getElem_toArray, List.getElem_cons_zero, List.getElem_cons_succ, List.setIfInBounds_toArray, List.set_cons_zero, List.set_cons_succ]
                  refine wpAnyH_take (i := 11) (v := ?_) rfl (by kernel_rfl) (by kernel_rfl) (by kernel_rfl) (fun _ _ _ h => h) (Or.inl ⟨by rfl, ?ycnbf11⟩) (by assumption) ?qcnbf11
                  case ycnbf11 => (intro wz hSw; (try dsimp only at hSw); go_simp <;> with_reducible rfl)
                  try simp only [Act.put, List.getElem_toArray, List.getElem_cons_zero, List.getElem_cons_succ, List.setIfInBounds_toArray, List.set_cons_zero, List.set_cons_succ]
                  refine wpAnyH_take (i := 12) (v := ?_) rfl (by kernel_rfl) (by kernel_rfl) (by kernel_rfl) (fun _ _ _ h => h) (Or.inl ⟨by rfl, ?ycnbf12⟩) (by assumption) ?qcnbf12
                  case ycnbf12 => (intro wz hSw; (try dsimp only at hSw); go_simp <;> with_reducible rfl)
                  try simp only [Act.put, List.getElem_toArray, List.getElem_cons_zero, List.getElem_cons_succ, List.setIfInBounds_toArray, List.set_cons_zero, List.set_cons_succ]
                  refine wpAnyH_take (i := 13) (v := ?_) rfl (by kernel_rfl) (by kernel_rfl) (by kernel_rfl) (fun _ _ _ h => h) (Or.inl ⟨by rfl, ?ycnbf13⟩) (by assumption) ?qcnbf13
                  case ycnbf13 => (intro wz hSw; (try dsimp only at hSw); go_simp <;> with_reducible rfl)
                  try simp only [Act.put, List.getElem_toArray, List.getElem_cons_zero, List.getElem_cons_succ, List.setIfInBounds_toArray, List.set_cons_zero, List.set_cons_succ]
                  refine wpAnyH_done (by kernel_rfl) ?_ _
                  have HN : Hid (Below w4.heap.size w4 wr.drew.drew) := Lib.hid (below_drewN (below_drewN HBJ.out 1) 1)
                  go_wp2_with fail
                  go_roundw
                  case rel => exact ⟨j + 1, _, by go_num, rfl, hlj, Lib.hid ⟨by rw [HSB.out]; first | rfl | (rw [Bool.eq_iff_iff]; simp; done) | (rw [HWK.out]; rw [Bool.eq_iff_iff]; simp; done) | (rw [HWK.out]; rw [Bool.eq_iff_iff]; simp; omega), HN.out⟩⟩
                  case measure => simp [intOf]; omega
              | some m =>
                rw [hfv] at hcu HSB
                unfold stepI at hcu HSB
                simp only at hcu HSB
                obtain ⟨hn1, hn2⟩ := hnr m hfv
                have hn3 : decide ((m : Int) + 1 < ((k : Int) + 1)) = false := decide_eq_false (by omega)
                have hm0 : (0 : Int) ≤ (m : Int) := by omega
                have hm1 : (m : Int) ≤ 100000 := by have := HBD.out _ _ hfv; omega
                have hwm : IntKind.i64.wrap ((m : Int) + 1) = (m : Int) + 1 := by rw [IntKind.wrap_i64]; omega
                have hn4 : decide (IntKind.i64.wrap ((m : Int) + 1) < ((k : Int) + 1)) = false := by rw [hwm]; exact hn3
                clear hfv hnr
                go_upto_region 18 with fail
                refine wp_region_held_drew (S := fun X => X.cell? ⟨gz, oz + u, none⟩ = some (.int .i64 ((k : Int) + 1)) ∧ X.cell? ⟨gz, oz + v, none⟩ = some (.int .i64 (m : Int))) (by kernel_rfl) ⟨hcz, hcu⟩ (fun hHeld0 => ?_)
                refine wpAnyH_take (i := 0) (v := ?_) rfl (by kernel_rfl) (by kernel_rfl) (by kernel_rfl) (fun _ _ _ h => h) (Or.inl ⟨by rfl, ?ycsa0⟩) (by assumption) ?qcsa0
                case ycsa0 => (intro wz hSw; (try dsimp only at hSw); go_simp <;> with_reducible rfl)
                try simp only [Act.put, List.getElem_toArray, List.getElem_cons_zero, List.setIfInBounds_toArray, List.set_cons_zero, List.set_cons_succ]
                refine wpAnyH_take (i := 1) (v := ?_) rfl (by kernel_rfl) (by kernel_rfl) (by kernel_rfl) (fun _ _ _ h => h) (Or.inl ⟨by rfl, ?ycsa1⟩) (by assumption) ?qcsa1
                case ycsa1 => (intro wz hSw; (try dsimp only at hSw); go_simp <;> with_reducible rfl)
                try simp only [Act.put, List.getElem_toArray, List.getElem_cons_zero, List.getElem_cons_succ, List.setIfInBounds_toArray, List.set_cons_zero, List.set_cons_succ]
                refine wpAnyH_take (i := 2) (v := ?_) rfl (by kernel_rfl) (by kernel_rfl) (by kernel_rfl) (fun _ _ _ h => h) (Or.inl ⟨by rfl, ?ycsa2⟩) (by assumption) ?qcsa2
                case ycsa2 => (intro wz hSw; (try dsimp only at hSw); go_simp <;> with_reducible rfl)
                try simp only [Act.put, List.getElem_toArray, List.getElem_cons_zero, List.getElem_cons_succ, List.setIfInBounds_toArray, List.set_cons_zero, List.set_cons_succ]
                refine wpAnyH_take (i := 3) (v := ?_) rfl (by kernel_rfl) (by kernel_rfl) (by kernel_rfl) (fun _ _ _ h => h) (Or.inl ⟨by rfl, ?ycsa3⟩) (by assumption) ?qcsa3
                case ycsa3 => (intro wz hSw; (try dsimp only at hSw); go_simp <;> with_reducible rfl)
                try simp only [Act.put, List.getElem_toArray, List.getElem_cons_zero, List.getElem_cons_succ, List.setIfInBounds_toArray, List.set_cons_zero, List.set_cons_succ]
                refine wpAnyH_take (i := 4) (v := ?_) rfl (by kernel_rfl) (by kernel_rfl) (by kernel_rfl) (fun _ _ _ h => h) (Or.inl ⟨by rfl, ?ycsa4⟩) (by assumption) ?qcsa4
                case ycsa4 => (intro wz hSw; (try dsimp only at hSw); go_simp <;> with_reducible rfl)
                try simp only [Act.put, List.getElem_toArray, List.getElem_cons_zero, List.getElem_cons_succ, List.setIfInBounds_toArray, List.set_cons_zero, List.set_cons_succ]
                refine wpAnyH_take (i := 5) (v := ?_) rfl (by kernel_rfl) (by kernel_rfl) (by kernel_rfl) (fun _ _ _ h => h) (Or.inl ⟨by rfl, ?ycsa5⟩) (by assumption) ?qcsa5
                case ycsa5 => (intro wz hSw; (try dsimp only at hSw); go_simp <;> with_reducible rfl)
                try simp only [Act.put, List.getElem_toArray, List.getElem_cons_zero, List.getElem_cons_succ, List.setIfInBounds_toArray, List.set_cons_zero, List.set_cons_succ]
                refine wpAnyH_take (i := 6) (v := ?_) rfl (by kernel_rfl) (by kernel_rfl) (by kernel_rfl) (fun _ _ _ h => h) (Or.inl ⟨by rfl, ?ycsa6⟩) (by assumption) ?qcsa6
                case ycsa6 => (intro wz hSw; (try dsimp only at hSw); go_simp <;> with_reducible rfl)
                try simp only [Act.put, List.getElem_toArray, List.getElem_cons_zero, List.getElem_cons_succ, List.setIfInBounds_toArray, List.set_cons_zero, List.set_cons_succ]
                refine wpAnyH_take (i := 7) (v := ?_) rfl (by kernel_rfl) (by kernel_rfl) (by kernel_rfl) (fun _ _ _ h => h) (Or.inl ⟨by rfl, ?ycsa7⟩) (by assumption) ?qcsa7
                case ycsa7 => (intro wz hSw; (try dsimp only at hSw); go_simp <;> with_reducible rfl)
                try simp only [Act.put, List.getElem_toArray, List.getElem_cons_zero, List.getElem_cons_succ, List.setIfInBounds_toArray, List.set_cons_zero, List.set_cons_succ]
                refine wpAnyH_take (i := 8) (v := ?_) rfl (by kernel_rfl) (by kernel_rfl) (by kernel_rfl) (fun _ _ _ h => h) (Or.inl ⟨by rfl, ?ycsa8⟩) (by assumption) ?qcsa8
                case ycsa8 => (intro wz hSw; (try dsimp only at hSw); go_simp <;> with_reducible rfl)
                try simp only [Act.put, List.getElem_toArray, List.getElem_cons_zero, List.getElem_cons_succ, List.setIfInBounds_toArray, List.set_cons_zero, List.set_cons_succ]
                refine wpAnyH_take (i := 9) (v := ?_) rfl (by kernel_rfl) (by kernel_rfl) (by kernel_rfl) (fun _ _ _ h => h) (Or.inl ⟨by rfl, ?ycsa9⟩) (by assumption) ?qcsa9
                case ycsa9 => (intro wz hSw; (try dsimp only at hSw); go_simp <;> with_reducible rfl)
                try simp only [Act.put, List.getElem_toArray, List.getElem_cons_zero, List.getElem_cons_succ, List.setIfInBounds_toArray, List.set_cons_zero, List.set_cons_succ]
                refine wpAnyH_take (i := 10) (v := ?_) rfl (by kernel_rfl) (by kernel_rfl) (by kernel_rfl) (fun _ _ _ h => h) (Or.inl ⟨by rfl, ?ycsa10⟩) (by assumption) ?qcsa10
                case ycsa10 => (intro wz hSw; (try dsimp only at hSw); go_simp <;> with_reducible rfl)
                try simp only [Act.put, List.getElem_toArray, List.getElem_cons_zero, List.getElem_cons_succ, List.setIfInBounds_toArray, List.set_cons_zero, List.set_cons_succ]
                refine wpAnyH_take (i := 11) (v := ?_) rfl (by kernel_rfl) (by kernel_rfl) (by kernel_rfl) (fun _ _ _ h => h) (Or.inl ⟨by rfl, ?ycsa11⟩) (by assumption) ?qcsa11
                case ycsa11 => (intro wz hSw; (try dsimp only at hSw); go_simp <;> with_reducible rfl)
                try simp only [Act.put, List.getElem_toArray, List.getElem_cons_zero, List.getElem_cons_succ, List.setIfInBounds_toArray, List.set_cons_zero, List.set_cons_succ]
                refine wpAnyH_take (i := 12) (v := ?_) rfl (by kernel_rfl) (by kernel_rfl) (by kernel_rfl) (fun _ _ _ h => h) (Or.inl ⟨by rfl, ?ycsa12⟩) (by assumption) ?qcsa12
                case ycsa12 => (intro wz hSw; (try dsimp only at hSw); go_simp <;> with_reducible rfl)
                try simp only [Act.put, List.getElem_toArray, List.getElem_cons_zero, List.getElem_cons_succ, List.setIfInBounds_toArray, List.set_cons_zero, List.set_cons_succ]
                refine wpAnyH_take (i := 13) (v := ?_) rfl (by kernel_rfl) (by kernel_rfl) (by kernel_rfl) (fun _ _ _ h => h) (Or.inl ⟨by rfl, ?ycsa13⟩) (by assumption) ?qcsa13
                case ycsa13 => (intro wz hSw; (try dsimp only at hSw); go_simp <;> with_reducible rfl)
                try simp only [Act.put, List.getElem_toArray, List.getElem_cons_zero, List.getElem_cons_succ, List.setIfInBounds_toArray, List.set_cons_zero, List.set_cons_succ]
                refine wpAnyH_take (i := 14) (v := ?_) rfl (by kernel_rfl) (by kernel_rfl) (by kernel_rfl) (fun _ _ _ h => h) (Or.inl ⟨by rfl, ?ycsa14⟩) (by assumption) ?qcsa14
                case ycsa14 => (intro wz hSw; (try dsimp only at hSw); go_simp <;> with_reducible rfl)
                try simp only [Act.put, List.getElem_toArray, List.getElem_cons_zero, List.getElem_cons_succ, List.setIfInBounds_toArray, List.set_cons_zero, List.set_cons_succ]
                refine wpAnyH_take (i := 15) (v := ?_) rfl (by kernel_rfl) (by kernel_rfl) (by kernel_rfl) (fun _ _ _ h => h) (Or.inl ⟨by rfl, ?ycsa15⟩) (by assumption) ?qcsa15
                case ycsa15 => (intro wz hSw; (try dsimp only at hSw); go_simp <;> with_reducible rfl)
                try simp only [Act.put, List.getElem_toArray, List.getElem_cons_zero, List.getElem_cons_succ, List.setIfInBounds_toArray, List.set_cons_zero, List.set_cons_succ]
                refine wpAnyH_take (i := 16) (v := ?_) rfl (by kernel_rfl) (by kernel_rfl) (by kernel_rfl) (fun _ _ _ h => h) (Or.inl ⟨by rfl, ?ycsa16⟩) (by assumption) ?qcsa16
                case ycsa16 => (intro wz hSw; (try dsimp only at hSw); go_simp <;> with_reducible rfl)
                try simp only [Act.put, List.getElem_toArray, List.getElem_cons_zero, List.getElem_cons_succ, List.setIfInBounds_toArray, List.set_cons_zero, List.set_cons_succ]
                refine wpAnyH_take (i := 17) (v := ?_) rfl (by kernel_rfl) (by kernel_rfl) (by kernel_rfl) (fun _ _ _ h => h) (Or.inl ⟨by rfl, ?ycsa17⟩) (by assumption) ?qcsa17
                case ycsa17 => (intro wz hSw; (try dsimp only at hSw); go_simp <;> with_reducible rfl)
                try simp only [Act.put, List.getElem_toArray, List.getElem_cons_zero, List.getElem_cons_succ, List.setIfInBounds_toArray, List.set_cons_zero, List.set_cons_succ]
                refine wpAnyH_take (i := 18) (v := ?_) rfl (by kernel_rfl) (by kernel_rfl) (by kernel_rfl) (fun _ _ _ h => h) (Or.inl ⟨by rfl, ?ycsa18⟩) (by assumption) ?qcsa18
                case ycsa18 => (intro wz hSw; (try dsimp only at hSw); go_simp <;> with_reducible rfl)
                try simp only [Act.put, List.getElem_toArray, List.getElem_cons_zero, List.getElem_cons_succ, List.setIfInBounds_toArray, List.set_cons_zero, List.set_cons_succ]
                refine wpAnyH_take (i := 19) (v := ?_) rfl (by kernel_rfl) (by kernel_rfl) (by kernel_rfl) (fun _ _ _ h => h) (Or.inl ⟨by rfl, ?ycsa19⟩) (by assumption) ?qcsa19
                case ycsa19 => (intro wz hSw; (try dsimp only at hSw); go_simp <;> with_reducible rfl)
                try simp only [Act.put, List.getElem_toArray, List.getElem_cons_zero, List.getElem_cons_succ, List.setIfInBounds_toArray, List.set_cons_zero, List.set_cons_succ]
                refine wpAnyH_take (i := 20) (v := ?_) rfl (by kernel_rfl) (by kernel_rfl) (by kernel_rfl) (fun _ _ _ h => h) (Or.inl ⟨by rfl, ?ycsa20⟩) (by assumption) ?qcsa20
                case ycsa20 => (intro wz hSw; (try dsimp only at hSw); go_simp <;> with_reducible rfl)
                try simp only [Act.put, List.getElem_toArray, List.getElem_cons_zero, List.getElem_cons_succ, List.setIfInBounds_toArray, List.set_cons_zero, List.set_cons_succ]
                refine wpAnyH_take (i := 21) (v := ?_) rfl (by kernel_rfl) (by kernel_rfl) (by kernel_rfl) (fun _ _ _ h => h) (Or.inl ⟨by rfl, ?ycsa21⟩) (by assumption) ?qcsa21
                case ycsa21 => (intro wz hSw; (try dsimp only at hSw); go_simp <;> with_reducible rfl)
                try simp only [Act.put, List.getElem_toArray, List.getElem_cons_zero, List.getElem_cons_succ, List.setIfInBounds_toArray, List.set_cons_zero, List.set_cons_succ]
                refine wpAnyH_take (i := 22) (v := ?_) rfl (by kernel_rfl) (by kernel_rfl) (by kernel_rfl) (fun _ _ _ h => h) (Or.inl ⟨by rfl, ?ycsa22⟩) (by assumption) ?qcsa22
                case ycsa22 => (intro wz hSw; (try dsimp only at hSw); go_simp <;> with_reducible rfl)
                try simp only [Act.put, List.getElem_toArray, List.getElem_cons_zero, List.getElem_cons_succ, List.setIfInBounds_toArray, List.set_cons_zero, List.set_cons_succ]
                refine wpAnyH_take (i := 23) (v := ?_) rfl (by kernel_rfl) (by kernel_rfl) (by kernel_rfl) (fun _ _ _ h => h) (Or.inl ⟨by rfl, ?ycsa23⟩) (by assumption) ?qcsa23
                case ycsa23 => (intro wz hSw; (try dsimp only at hSw); go_simp <;> with_reducible rfl)
                try simp only [Act.put, List.getElem_toArray, List.getElem_cons_zero, List.getElem_cons_succ, List.setIfInBounds_toArray, List.set_cons_zero, List.set_cons_succ]
                refine wpAnyH_done (by kernel_rfl) ?_ _
                have hcz2 : wr.drew.cell? ⟨gz, oz + u, none⟩ = some (.int .i64 ((k : Int) + 1)) := hcz
                have hcu2 : wr.drew.cell? ⟨gz, oz + v, none⟩ = some (.int .i64 (m : Int)) := hcu
                cases bb with
                | true =>
                  go_upto_region 20 with fail
                  refine wp_region_held_drew (S := fun X => X.cell? ⟨gz, oz + u, none⟩ = some (.int .i64 ((k : Int) + 1)) ∧ X.cell? ⟨gz, oz + v, none⟩ = some (.int .i64 (m : Int))) (by kernel_rfl) ⟨hcz2, hcu2⟩ (fun hHeld1 => ?_)
                  refine wpAnyH_take (i := 0) (v := ?_) rfl (by kernel_rfl) (by kernel_rfl) (by kernel_rfl) (fun _ _ _ h => h) (Or.inl ⟨by rfl, ?ycsbt0⟩) (by assumption) ?qcsbt0
                  case ycsbt0 => (intro wz hSw; (try dsimp only at hSw); go_simp <;> with_reducible rfl)
                  try simp only [Act.put, List.getElem_toArray, List.getElem_cons_zero, List.setIfInBounds_toArray, List.set_cons_zero, List.set_cons_succ]
                  refine wpAnyH_take (i := 1) (v := ?_) rfl (by kernel_rfl) (by kernel_rfl) (by kernel_rfl) (fun _ _ _ h => h) (Or.inl ⟨by rfl, ?ycsbt1⟩) (by assumption) ?qcsbt1
                  case ycsbt1 => (intro wz hSw; (try dsimp only at hSw); go_simp <;> with_reducible rfl)
                  try simp only [Act.put, List.getElem_toArray, List.getElem_cons_zero, List.getElem_cons_succ, List.setIfInBounds_toArray, List.set_cons_zero, List.set_cons_succ]
                  refine wpAnyH_take (i := 2) (v := undef) rfl (by kernel_rfl) (by kernel_rfl) (by kernel_rfl) (fun _ _ _ h => h) (Or.inr ⟨by rfl, rfl⟩) (by assumption) ?_
                  try simp only [Act.put, List.getElem_toArray, List.getElem_cons_zero, List.getElem_cons_succ, List.setIfInBounds_toArray, List.set_cons_zero, List.set_cons_succ]
                  refine wpAnyH_take (i := 3) (v := undef) rfl (by kernel_rfl) (by kernel_rfl) (by kernel_rfl) (fun _ _ _ h => h) (Or.inr ⟨by rfl, rfl⟩) (by assumption) ?_
                  try simp only [Act.put, List.getElem_toArray, List.getElem_cons_zero, List.getElem_cons_succ, List.setIfInBounds_toArray, List.set_cons_zero, List.set_cons_succ]
                  refine wpAnyH_take (i := 4) (v := undef) rfl (by kernel_rfl) (by kernel_rfl) (by kernel_rfl) (fun _ _ _ h => h) (Or.inr ⟨by rfl, rfl⟩) (by assumption) ?_
                  try simp only [Act.put, List.getElem_toArray, List.getElem_cons_zero, List.getElem_cons_succ, List.setIfInBounds_toArray, List.set_cons_zero, List.set_cons_succ]
                  refine wpAnyH_take (i := 5) (v := undef) rfl (by kernel_rfl) (by kernel_rfl) (by kernel_rfl) (fun _ _ _ h => h) (Or.inr ⟨by rfl, rfl⟩) (by assumption) ?_
                  try simp only [Act.put, List.getElem_toArray, List.getElem_cons_zero, List.getElem_cons_succ, List.setIfInBounds_toArray, List.set_cons_zero, List.set_cons_succ]
                  refine wpAnyH_take (i := 6) (v := undef) rfl (by kernel_rfl) (by kernel_rfl) (by kernel_rfl) (fun _ _ _ h => h) (Or.inr ⟨by rfl, rfl⟩) (by assumption) ?_
                  try simp only [Act.put, List.getElem_toArray, List.getElem_cons_zero, List.getElem_cons_succ, List.setIfInBounds_toArray, List.set_cons_zero, List.set_cons_succ]
                  refine wpAnyH_take (i := 7) (v := undef) rfl (by kernel_rfl) (by kernel_rfl) (by kernel_rfl) (fun _ _ _ h => h) (Or.inr ⟨by rfl, rfl⟩) (by assumption) ?_
                  try simp only [Act.put, List.getElem_toArray, List.getElem_cons_zero, List.getElem_cons_succ, List.setIfInBounds_toArray, List.set_cons_zero, List.set_cons_succ]
                  refine wpAnyH_take (i := 8) (v := undef) rfl (by kernel_rfl) (by kernel_rfl) (by kernel_rfl) (fun _ _ _ h => h) (Or.inr ⟨by rfl, rfl⟩) (by assumption) ?_
                  try simp only [Act.put, List.getElem_toArray, List.getElem_cons_zero, List.getElem_cons_succ, List.setIfInBounds_toArray, List.set_cons_zero, List.set_cons_succ]
                  refine wpAnyH_take (i := 9) (v := undef) rfl (by kernel_rfl) (by kernel_rfl) (by kernel_rfl) (fun _ _ _ h => h) (Or.inr ⟨by rfl, rfl⟩) (by assumption) ?_
                  try simp only [Act.put, List.getElem_toArray, List.getElem_cons_zero, List.getElem_cons_succ, List.setIfInBounds_toArray, List.set_cons_zero, List.set_cons_succ]
                  refine wpAnyH_take (i := 10) (v := undef) rfl (by kernel_rfl) (by kernel_rfl) (by kernel_rfl) (fun _ _ _ h => h) (Or.inr ⟨by rfl, rfl⟩) (by assumption) ?_
                  try simp only [Act.put, List.getElem_toArray, List.getElem_cons_zero, List.getElem_cons_succ, List.setIfInBounds_toArray, List.set_cons_zero, List.set_cons_succ]
                  refine wpAnyH_take (i := 11) (v := undef) rfl (by kernel_rfl) (by kernel_rfl) (by kernel_rfl) (fun _ _ _ h => h) (Or.inr ⟨by rfl, rfl⟩) (by assumption) ?_
                  try simp only [Act.put, List.getElem_toArray, List.getElem_cons_zero, List.getElem_cons_succ, List.setIfInBounds_toArray, List.set_cons_zero, List.set_cons_succ]
                  refine wpAnyH_take (i := 12) (v := ?_) rfl (by kernel_rfl) (by kernel_rfl) (by kernel_rfl) (fun _ _ _ h => h) (Or.inl ⟨by rfl, ?ycsbt12⟩) (by assumption) ?qcsbt12
                  case ycsbt12 => (intro wz hSw; (try dsimp only at hSw); go_simp <;> with_reducible rfl)
                  try simp only [Act.put, List.getElem_toArray, List.getElem_cons_zero, List.getElem_cons_succ, List.setIfInBounds_toArray, List.set_cons_zero, List.set_cons_succ]
                  refine wpAnyH_take (i := 13) (v := ?_) rfl (by kernel_rfl) (by kernel_rfl) (by kernel_rfl) (fun _ _ _ h => h) (Or.inl ⟨by rfl, ?ycsbt13⟩) (by assumption) ?qcsbt13
                  case ycsbt13 => (intro wz hSw; (try dsimp only at hSw); go_simp <;> with_reducible rfl)
                  try simp only [Act.put, List.getElem_toArray, List.getElem_cons_zero, List.getElem_cons_succ, List.setIfInBounds_toArray, List.set_cons_zero, List.set_cons_succ]
                  refine wpAnyH_done (by kernel_rfl) ?_ _
                  have HN : Hid (Below w4.heap.size w4 wr.drew.drew) := Lib.hid (below_drewN (below_drewN HBJ.out 1) 1)
                  go_wp2_with fail
                  go_roundw
                  case rel => exact ⟨j + 1, _, by go_num, rfl, hlj, Lib.hid ⟨by rw [HSB.out]; first | rfl | (rw [Bool.eq_iff_iff]; simp; done) | (rw [HWK.out]; rw [Bool.eq_iff_iff]; simp; done) | (rw [HWK.out]; rw [Bool.eq_iff_iff]; simp; omega), HN.out⟩⟩
                  case measure => simp [intOf]; omega
                | false =>
                  go_upto_region 20 with fail
                  refine wp_region_held_drew (S := fun X => X.cell? ⟨gz, oz + u, none⟩ = some (.int .i64 ((k : Int) + 1)) ∧ X.cell? ⟨gz, oz + v, none⟩ = some (.int .i64 (m : Int))) (by kernel_rfl) ⟨hcz2, hcu2⟩ (fun hHeld1 => ?_)
                  refine wpAnyH_take (i := 0) (v := ?_) rfl (by kernel_rfl) (by kernel_rfl) (by kernel_rfl) (fun _ _ _ h => h) (Or.inl ⟨by rfl, ?ycsbf0⟩) (by assumption) ?qcsbf0
                  case ycsbf0 => (intro wz hSw; (try dsimp only at hSw); go_simp <;> with_reducible rfl)
                  try simp only [Act.put, List.getElem_toArray, List.getElem_cons_zero, List.setIfInBounds_toArray, List.set_cons_zero, List.set_cons_succ]
                  refine wpAnyH_take (i := 1) (v := ?_) rfl (by kernel_rfl) (by kernel_rfl) (by kernel_rfl) (fun _ _ _ h => h) (Or.inl ⟨by rfl, ?ycsbf1⟩) (by assumption) ?qcsbf1
                  case ycsbf1 => (intro wz hSw; (try dsimp only at hSw); go_simp <;> with_reducible rfl)
                  try simp only [Act.put, List.getElem_toArray, List.getElem_cons_zero, List.getElem_cons_succ, List.setIfInBounds_toArray, List.set_cons_zero, List.set_cons_succ]
                  refine wpAnyH_take (i := 2) (v := ?_) rfl (by kernel_rfl) (by kernel_rfl) (by kernel_rfl) (fun _ _ _ h => h) (Or.inl ⟨by rfl, ?ycsbf2⟩) (by assumption) ?qcsbf2
                  case ycsbf2 => (intro wz hSw; (try dsimp only at hSw); go_simp <;> with_reducible rfl)
                  try simp only [Act.put, List.getElem_toArray, List.getElem_cons_zero, List.getElem_cons_succ, List.setIfInBounds_toArray, List.set_cons_zero, List.set_cons_succ]
                  refine wpAnyH_take (i := 3) (v := ?_) rfl (by kernel_rfl) (by kernel_rfl) (by kernel_rfl) (fun _ _ _ h => h) (Or.inl ⟨by rfl, ?ycsbf3⟩) (by assumption) ?qcsbf3
                  case ycsbf3 => (intro wz hSw; (try dsimp only at hSw); go_simp <;> with_reducible rfl)
                  try simp only [Act.put, List.getElem_toArray, List.getElem_cons_zero, List.getElem_cons_succ, List.setIfInBounds_toArray, List.set_cons_zero, List.set_cons_succ]
                  refine wpAnyH_take (i := 4) (v := ?_) rfl (by kernel_rfl) (by kernel_rfl) (by kernel_rfl) (fun _ _ _ h => h) (Or.inl ⟨by rfl, ?ycsbf4⟩) (by assumption) ?qcsbf4
                  case ycsbf4 => (intro wz hSw; (try dsimp only at hSw); go_simp <;> with_reducible rfl)
                  try simp only [Act.put, List.getElem_toArray, List.getElem_cons_zero, List.getElem_cons_succ, List.setIfInBounds_toArray, List.set_cons_zero, List.set_cons_succ]
                  refine wpAnyH_take (i := 5) (v := ?_) rfl (by kernel_rfl) (by kernel_rfl) (by kernel_rfl) (fun _ _ _ h => h) (Or.inl ⟨by rfl, ?ycsbf5⟩) (by assumption) ?qcsbf5
                  case ycsbf5 => (intro wz hSw; (try dsimp only at hSw); go_simp <;> with_reducible rfl)
                  try simp only [Act.put, List.getElem_toArray, List.getElem_cons_zero, List.getElem_cons_succ, List.setIfInBounds_toArray, List.set_cons_zero, List.set_cons_succ]
                  refine wpAnyH_take (i := 6) (v := ?_) rfl (by kernel_rfl) (by kernel_rfl) (by kernel_rfl) (fun _ _ _ h => h) (Or.inl ⟨by rfl, ?ycsbf6⟩) (by assumption) ?qcsbf6
                  case ycsbf6 => (intro wz hSw; (try dsimp only at hSw); go_simp <;> with_reducible rfl)
                  try simp only [Act.put, List.getElem_toArray, List.getElem_cons_zero, List.getElem_cons_succ, List.setIfInBounds_toArray, List.set_cons_zero, List.set_cons_succ]
                  refine wpAnyH_take (i := 7) (v := ?_) rfl (by kernel_rfl) (by kernel_rfl) (by kernel_rfl) (fun _ _ _ h => h) (Or.inl ⟨by rfl, ?ycsbf7⟩) (by assumption) ?qcsbf7
                  case ycsbf7 => (intro wz hSw; (try dsimp only at hSw); go_simp <;> with_reducible rfl)
                  try simp only [Act.put, List.getElem_toArray, List.getElem_cons_zero, List.getElem_cons_succ, List.setIfInBounds_toArray, List.set_cons_zero, List.set_cons_succ]
                  refine wpAnyH_take (i := 8) (v := ?_) rfl (by kernel_rfl) (by kernel_rfl) (by kernel_rfl) (fun _ _ _ h => h) (Or.inl ⟨by rfl, ?ycsbf8⟩) (by assumption) ?qcsbf8
                  case ycsbf8 => (intro wz hSw; (try dsimp only at hSw); go_simp <;> with_reducible rfl)
                  try simp only [Act.put, List.getElem_toArray, List.getElem_cons_zero, List.getElem_cons_succ, List.setIfInBounds_toArray, List.set_cons_zero, List.set_cons_succ]
                  refine wpAnyH_take (i := 9) (v := ?_) rfl (by kernel_rfl) (by kernel_rfl) (by kernel_rfl) (fun _ _ _ h => h) (Or.inl ⟨by rfl, ?ycsbf9⟩) (by assumption) ?qcsbf9
                  case ycsbf9 => (intro wz hSw; (try dsimp only at hSw); go_simp <;> with_reducible rfl)
                  try simp only [Act.put, List.getElem_toArray, List.getElem_cons_zero, List.getElem_cons_succ, List.setIfInBounds_toArray, List.set_cons_zero, List.set_cons_succ]
                  refine wpAnyH_take (i := 10) (v := ?_) rfl (by kernel_rfl) (by kernel_rfl) (by kernel_rfl) (fun _ _ _ h => h) (Or.inl ⟨by rfl, ?ycsbf10⟩) (by assumption) ?qcsbf10
                  case ycsbf10 => (intro wz hSw; (try dsimp only at hSw); go_simp <;> with_reducible rfl)
                  try simp only [Act.put, List.getElem_toArray, List.getElem_cons_zero, List.getElem_cons_succ, List.setIfInBounds_toArray, List.set_cons_zero, List.set_cons_succ]
                  refine wpAnyH_take (i := 11) (v := ?_) rfl (by kernel_rfl) (by kernel_rfl) (by kernel_rfl) (fun _ _ _ h => h) (Or.inl ⟨by rfl, ?ycsbf11⟩) (by assumption) ?qcsbf11
                  case ycsbf11 => (intro wz hSw; (try dsimp only at hSw); go_simp <;> with_reducible rfl)
                  try simp only [Act.put, List.getElem_toArray, List.getElem_cons_zero, List.getElem_cons_succ, List.setIfInBounds_toArray, List.set_cons_zero, List.set_cons_succ]
                  refine wpAnyH_take (i := 12) (v := ?_) rfl (by kernel_rfl) (by kernel_rfl) (by kernel_rfl) (fun _ _ _ h => h) (Or.inl ⟨by rfl, ?ycsbf12⟩) (by assumption) ?qcsbf12
                  case ycsbf12 => (intro wz hSw; (try dsimp only at hSw); go_simp <;> with_reducible rfl)
                  try simp only [Act.put, List.getElem_toArray, List.getElem_cons_zero, List.getElem_cons_succ, List.setIfInBounds_toArray, List.set_cons_zero, List.set_cons_succ]
                  refine wpAnyH_take (i := 13) (v := ?_) rfl (by kernel_rfl) (by kernel_rfl) (by kernel_rfl) (fun _ _ _ h => h) (Or.inl ⟨by rfl, ?ycsbf13⟩) (by assumption) ?qcsbf13
                  case ycsbf13 => (intro wz hSw; (try dsimp only at hSw); go_simp <;> with_reducible rfl)
                  try simp only [Act.put, List.getElem_toArray, List.getElem_cons_zero, List.getElem_cons_succ, List.setIfInBounds_toArray, List.set_cons_zero, List.set_cons_succ]
                  refine wpAnyH_done (by kernel_rfl) ?_ _
                  have HN : Hid (Below w4.heap.size w4 wr.drew.drew) := Lib.hid (below_drewN (below_drewN HBJ.out 1) 1)
                  go_wp2_with fail
                  go_roundw
                  case rel => exact ⟨j + 1, _, by go_num, rfl, hlj, Lib.hid ⟨by rw [HSB.out]; first | rfl | (rw [Bool.eq_iff_iff]; simp; done) | (rw [HWK.out]; rw [Bool.eq_iff_iff]; simp; done) | (rw [HWK.out]; rw [Bool.eq_iff_iff]; simp; omega), HN.out⟩⟩
                  case measure => simp [intOf]; omega
            · have e : M = j := by omega
              subst e
              have HBI : Hid (Below w3.heap.size w3 wr) := Lib.hid (HB4.out.trans (HJ.out.2.mono HB4.out.size))
              have hb := HJ.out.1
              have hcz := (HZ.out wr HBI.out u hun).2
              have hgz := (HZ.out wr HBI.out u hun).1
              rw [HDU.out] at hcz
              have hbt2 := HALL.out vs HVS.out
              rw [← HM.out, ← hb] at hbt2
              subst hbt2
              have hk0 : ((k : Int) + 1 == 0) = false := by rw [beq_eq_false_iff_ne]; omega
              have hkt : ((u : Int) == to_) = false := by rw [beq_eq_false_iff_ne]; exact hut
              clear HV HVS HJ hb HALL
              go_wp2_with fail
              go_roundw
              case rel => exact ⟨u + 1, by go_num, hun, HBI⟩
              case measure => simp [intOf]; omega
    · have e : N = u := by omega
      subst e
      clear HST HNONE HNX hu hun
      go_wp2_with fail
      refine (HWAY.out wr HBR.out).mono ?_
      rintro e w5 ⟨d2, hd2, v5, L, is, rfl, ho5, hwk, hb5⟩
      have hdd : d2 = d := funext fun x => hd2.one HD.out x
      subst hdd
      have HB5 := Lib.hid (HBR.out.trans (hb5.mono HBR.out.size))
      clear hd2 hb5 HWAY
      rcases hwk with ⟨u0, k, rfl, h2, rfl, h4, h5, h6⟩ | ⟨h1, rfl, rfl⟩
      · have hu0 : u0 < N := (HIN.out.okd u0 k h2).1
        have hu0i : (u0 : Int) < (N : Int) := by omega
        have hkb := HBD.out _ _ h2
        have hlist := ho5.list (by omega)
        obtain ⟨p5, c5, hv5, _, hc5⟩ := hlist.open_
        subst hv5
        have HC5 : Hid (∀ i, i < k → ∃ g o, p5 = some ⟨g, o, none⟩ ∧ ∃ x, (∀ X, Below w5.heap.size w5 X → g < X.heap.size ∧ X.cell? ⟨g, o + i * 4, none⟩ = some (.int .i64 (Arc.fr x)) ∧ X.cell? ⟨g, o + i * 4 + 1, none⟩ = some (.int .i64 x.to) ∧ X.cell? ⟨g, o + i * 4 + 2, none⟩ = some (.int .i64 x.kd) ∧ X.cell? ⟨g, o + i * 4 + 3, none⟩ = some (.int .i64 x.lb)) ∧ x ∈ ofA q mask ∧ x.fr = atA (u0 : Int) (L.take i) ∧ x.to = atA (u0 : Int) (L.take (i + 1))) := Lib.hid fun i hi => by
          have hi2 : i < L.length := by omega
          obtain ⟨g, o, e1, _, e2, e3, e4, e5, e6⟩ := hc5 i hi2
          have e : L.getD i Arc.zero = L[i] := by simp [List.getD_eq_getElem?_getD, hi2]
          rw [e] at e3 e4 e5 e6
          refine ⟨g, o, e1, L[i], fun X hX => ⟨Nat.lt_of_lt_of_le e2 hX.size, (hX.cell (p := ⟨g, _, none⟩) e2).trans e3, (hX.cell (p := ⟨g, _, none⟩) e2).trans e4, (hX.cell (p := ⟨g, _, none⟩) e2).trans e5, (hX.cell (p := ⟨g, _, none⟩) e2).trans e6⟩, h6 _ (List.getElem_mem hi2), h5.fr_at hi2, ?_⟩
          rw [List.take_succ_eq_append_getElem hi2, atA_snoc]
        have HEN : Hid (atA (u0 : Int) (L.take k) = to_) := Lib.hid (by rw [← h4, List.take_length]; exact h5.at_)
        have HAT : Hid (atA (u0 : Int) (L.take 0) = (u0 : Int)) := Lib.hid rfl
        have hcd := (HZ.out w5 HB5.out u0 hu0).2
        have hgd := (HZ.out w5 HB5.out u0 hu0).1
        rw [h2] at hcd
        unfold stepI at hcd
        simp only at hcd
        have hk0 : (0 : Int) ≤ (k : Int) := by omega
        have hk1 : (k : Int) ≤ 100000 := by omega
        have hge : decide (N ≤ u0) = false := decide_eq_false (by omega)
        have hln : decide ((u0 : Int) < 0) = false := decide_eq_false (by omega)
        have hkn : decide ((k : Int) < 0) = false := decide_eq_false (by omega)
        rw [h4]
        have HOLD : Hid (∀ X, Below w3.heap.size w3 X → gz < X.heap.size ∧ X.cell? ⟨gz, oz + u0, none⟩ = some (.int .i64 (k : Int))) := Lib.hid fun X hX => by
          have := HZ.out X hX u0 hu0
          rw [h2] at this
          exact this
        clear h2 h4 h5 h6 ho5 hlist hc5 hkb hu0 HZ HD HIN HBD HRT HLN HBR
        go_wp2_with fail
        have HU0 := Lib.hid hu0i
        clear hu0i
        go_loopw [19, 155] (fun s19 s155 wr => ∃ (i : Nat) (x : Int), s155 = .int .i64 (i : Int) ∧ s19 = .int .i64 x ∧ i ≤ k ∧ Hid (x = atA (u0 : Int) (L.take i) ∧ Below w5.heap.size w5 wr)) (fun _ s155 _ => k - (intOf s155).toNat)
        case atStart => exact ⟨0, _, rfl, rfl, Nat.zero_le _, Lib.hid ⟨rfl, Below.refl _ _⟩⟩
        case round =>
          obtain ⟨i, at_, rfl, rfl, hi, HI⟩ := hrel
          clear hcd hgd
          by_cases hlk : i < k
          · obtain ⟨g, o, rfl, x, hcx, hxq, hxf, hxt⟩ := HC5.out i hlk
            have hkI : (i : Int) < (k : Int) := by omega
            obtain ⟨hg, c0, c1, c2, c3⟩ := hcx wr HI.out.2
            have hxa : x.fr = at_ := hxf.trans HI.out.1.symm
            obtain ⟨X, hX⟩ : ∃ X, X = wr.alloc (bxA x) := ⟨_, rfl⟩
            have hbX : Below w5.heap.size w5 X := by rw [hX]; exact HI.out.2.alloc HI.out.2.size _
            have HHX := Lib.hid (HHAS.out X (HB5.out.trans (hbX.mono HB5.out.size)) x hxq)
            have HXT := Lib.hid hxt
            have HBX : Hid (Below w5.heap.size w5 X ∧ X.heap[wr.heap.size]? = some (bxA x)) := Lib.hid ⟨hbX, by rw [hX]; exact heap_alloc_at _ _ _ rfl⟩
            obtain ⟨x0, x1, x2, x3⟩ := x
            unfold bxA at hX
            unfold vA at HHX
            simp only at c0 c1 c2 c3 hxa HHX hX HXT
            subst hxa
            have hne : (x0 != x0) = false := by rw [bne_eq_false_iff_eq]
            clear hcx hxq hxf hxt hbX HI
            obtain ⟨bx, hbx⟩ : ∃ bx, bx = wr.heap.size := ⟨_, rfl⟩
            rw [← hbx] at HBX
            go_upto_region 31 with fail
            rw [← hX, ← hbx]
            clear hX hbx c0 c1 c2 c3 hg
            obtain ⟨d0, d1, d2, d3⟩ := cellsA HBX.out.2
            have hbl := heap_lt HBX.out.2
            go_wp2_with fail
            refine HHX.out.mono ?_
            rintro e wG ⟨rfl, hbG⟩
            have HBG : Hid (Below w5.heap.size w5 wG ∧ wG.heap[bx]? = some (bxA ⟨x0, x1, x2, x3⟩)) := Lib.hid ⟨HBX.out.1.trans (hbG.mono HBX.out.1.size), (hbG.block _ hbl).trans HBX.out.2⟩
            clear hbG HHX HBX d0 d1 d2 d3 hbl
            obtain ⟨d0, d1, d2, d3⟩ := cellsA HBG.out.2
            go_wp2_with fail
            go_roundw
            case rel => exact ⟨i + 1, _, by go_num, rfl, hlk, Lib.hid ⟨HXT.out, HBG.out.1⟩⟩
            case measure => simp [intOf]; omega
          · have e : k = i := by omega
            subst e
            have hat : at_ = to_ := HI.out.1.trans HEN.out
            have HBF := Lib.hid (HB5.out.trans (HI.out.2.mono HB5.out.size))
            obtain ⟨hgd, hcd⟩ := HOLD.out wr HBF.out
            have HBE := Lib.hid (HB3.out.trans (HBF.out.mono HB3.out.size))
            have hu0i := HU0.out
            have hte : (to_ == to_) = true := beq_self_eq_true _
            clear HI HC5 HEN HAT HHAS
            subst hat
            go_wp2
            go_ret
            exact ⟨rfl, HBE.out⟩
      · obtain ⟨p5, c5, rfl⟩ := own_nil_form ho5
        have HBE := Lib.hid (HB3.out.trans (HB5.out.mono HB3.out.size))
        by_cases hA : from_ < 0
        · clear ho5 h1
          go_wp2
          go_ret
          exact ⟨rfl, HBE.out⟩
        obtain ⟨u0, rfl⟩ := Int.eq_ofNat_of_zero_le (Int.not_lt.1 hA)
        by_cases hB : N ≤ u0
        · have hBi : (N : Int) ≤ (u0 : Int) := by omega
          clear ho5 h1
          go_wp2
          go_ret
          exact ⟨rfl, HBE.out⟩
        have hu0 : u0 < N := by omega
        have hu0i : (u0 : Int) < (N : Int) := by omega
        have hcd := (HZ.out w5 HB5.out u0 hu0).2
        have hgd := (HZ.out w5 HB5.out u0 hu0).1
        rw [h1 u0 rfl] at hcd
        unfold stepI at hcd
        simp only at hcd
        clear ho5 h1
        go_wp2
        go_ret
        exact ⟨rfl, HBE.out⟩
end Go.Proofs.Ytimgdkafennohaa.Ds
