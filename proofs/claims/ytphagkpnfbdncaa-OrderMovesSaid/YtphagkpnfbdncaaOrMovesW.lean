/-
  The walk of the statement on the moves that make one order of another. Not a statement of the seat.
-/
import Derived.Test.YtphagkpnfbdncaaOrTellsW
namespace Go.Proofs.Ytphagkpnfbdncaa.Or
open Go.ChangeShapes Go.WideShapes Go.ChangeAt Go.RowKit Base Lst
theorem sizePair (w : World) : (sizeOf 38).run Try.prog w = .ok 2 w := by kernel_rfl
theorem elemPairs : Try.prog.underlying 29 = some (.slice (Try.prog.elem 29)) := by kernel_rfl
theorem elemPairs' : Try.prog.elem 29 = 38 := by kernel_rfl
theorem pcut (p : Option Addr) (n c k : Nat) (h : k ≤ c) (w : World) : (Instr.sliceAt 29 (.slice p n c) none (some (.int .i64 (k : Int))) none).run Try.prog w = .ok (.slice p k c) w := by
  rw [run_sliceAt_slice _ _ _ _ _ _ elemPairs, run_slice_h w _ _ _ _ elemPairs _ _ (by omega) (by omega), elemPairs', sizePair]
  cases p <;> simp [Result.andThen, sliced, Addr.add]
theorem o_steps {w : World} {v u : Value} {zs ys : List Int} (h : SL w v zs) (hl : zs.length ≤ 65536) (hu : SL w u ys) (hbz : Bd zs) (hby : Bd ys) (ps : List F.Pai) (c : Int) (ha : toPs (Om.stepsL zs ys) = ps) (hb : Om.stepsE zs ys = c) (hpl : ps.length ≤ 65536) : Calls Try.prog 13 #[v, u] w fun e w' => ∃ p d, e = .returned (.tuple #[.slice p ps.length d, .int .i64 c]) ∧ ps.length ≤ d ∧ F.Pais 0 w' (.slice p ps.length d) ps ∧ Aft w w' := by
  have := steps_any w h.1 hu.1.1 (by omega) hbz hby
  rw [ha, hb] at this
  refine this.mono fun e w' ⟨v', h1, h2, h3⟩ => ?_
  have hp := (h2.list (by omega)).mono (Nat.zero_le _)
  rcases h2.2 with ⟨hv, h0⟩ | ⟨g, cap, cur, hv, _, _, hc, _⟩
  · subst hv
    have : ps = [] := List.length_eq_zero_iff.1 h0
    subst this
    exact ⟨none, 0, h1, Nat.le_refl _, hp, h3⟩
  · subst hv
    exact ⟨_, cap, h1, hc, hp, h3⟩
theorem goes_toPs {x : List Int} {s : List (Int × Int)} {m : List Int} {k : Nat} (hk : k < s.length) (h : Om.GoesTo x (s.drop k) m) : Om.moveE x ((toPs s).getD k F.Pai.zero).k ((toPs s).getD k F.Pai.zero).v = 0 ∧ Om.GoesTo (Om.moveL x ((toPs s).getD k F.Pai.zero).k ((toPs s).getD k F.Pai.zero).v) (s.drop (k + 1)) m := by
  rw [List.drop_eq_getElem_cons hk] at h
  have e : (toPs s).getD k F.Pai.zero = toP s[k] := by
    unfold toPs
    rw [List.getD_eq_getElem?_getD, List.getElem?_map, List.getElem?_eq_getElem hk]
    rfl
  rw [e]
  exact h
theorem keys_apart {ys : List Int} (hn : ys.Nodup) (rest : List Int) {s : List (Int × Int)} (hs : s = Om.stepsF rest ys 0) {j k : Nat} (hjk : j < k) (hk : k < s.length) : ((toPs s).getD j F.Pai.zero).k ≠ ((toPs s).getD k F.Pai.zero).k := by
  have h1 : (s.map Prod.fst).Nodup := by rw [hs]; exact hn.sublist (Om.steps_keys ys rest 0)
  have h2 := List.pairwise_iff_getElem.1 h1 j k (by simp; omega) (by simpa using hk) hjk
  have e : ∀ i, (hi : i < s.length) → ((toPs s).getD i F.Pai.zero).k = (s.map Prod.fst)[i]'(by simpa using hi) := fun i hi => by
    unfold toPs
    rw [List.getD_eq_getElem?_getD, List.getElem?_map, List.getElem?_eq_getElem hi]
    simp [toP]
  rw [e j (by omega), e k hk]
  exact h2
/-- A pair in a box. -/
def Box (w : World) (b : Nat) (x : F.Pai) : Prop := b < w.heap.size ∧ w.cell? ⟨b, 0, none⟩ = some (.int .i64 x.k) ∧ w.cell? ⟨b, 1, none⟩ = some (.int .i64 x.v)
theorem Box.aft {w W : World} {b : Nat} {x : F.Pai} (h : Box w b x) (hw : Aft w W) : Box W b x := ⟨Nat.lt_of_lt_of_le h.1 hw.size, (Below.cell hw (p := ⟨b, 0, none⟩) h.1).trans h.2.1, (Below.cell hw (p := ⟨b, 1, none⟩) h.1).trans h.2.2⟩
theorem steps_v_bd (xs ys : List Int) (hy : ys.length ≤ 65536) (k : Nat) : -9223372036854775808 ≤ ((toPs (Om.stepsL xs ys)).getD k F.Pai.zero).v ∧ ((toPs (Om.stepsL xs ys)).getD k F.Pai.zero).v ≤ 9223372036854775807 := by
  have key : ∀ (to rest : List Int) (i : Nat), ∀ p ∈ Om.stepsF rest to i, 0 ≤ p.2 ∧ p.2 ≤ i + to.length := by
    intro to
    induction to with
    | nil => intro rest i p hp; simp [Om.stepsF] at hp
    | cons x to ih =>
      intro rest i p hp
      unfold Om.stepsF at hp
      rcases List.mem_append.1 hp with hp | hp
      · split at hp
        · cases hp
        · rcases List.mem_singleton.1 hp with rfl
          simp
          omega
      · have := ih _ _ p hp
        simp only [List.length_cons]
        omega
  rcases Nat.lt_or_ge k (Om.stepsL xs ys).length with hk | hk
  · have e : ((toPs (Om.stepsL xs ys)).getD k F.Pai.zero).v = (Om.stepsL xs ys)[k].2 := by
      unfold toPs
      rw [List.getD_eq_getElem?_getD, List.getElem?_map, List.getElem?_eq_getElem hk]
      rfl
    rw [e]
    have hm : (Om.stepsL xs ys)[k] ∈ Om.stepsL xs ys := List.getElem_mem hk
    generalize (Om.stepsL xs ys)[k] = p at hm
    unfold Om.stepsL at hm
    split at hm
    · have := key ys xs 0 p hm
      omega
    · cases hm
  · have e : ((toPs (Om.stepsL xs ys)).getD k F.Pai.zero) = F.Pai.zero := by
      unfold toPs
      rw [List.getD_eq_getElem?_getD, List.getElem?_map, List.getElem?_eq_none hk]
      rfl
    rw [e]
    simp [F.Pai.zero]
set_option maxRecDepth 100000 in
set_option maxHeartbeats 4000000 in
theorem moves_far (v u : Value) (p q : Option Addr) (m n c d : Nat) (w : World) (hv : v = .slice p m c) (hu : u = .slice q n d) (h : 60 < m ∨ 60 < n) (hm : m ≤ 9223372036854775807) (hn : n ≤ 9223372036854775807) :
    Calls Try.prog 4 #[v, u] w (LivesP w) := by
  subst hv hu
  have HL2 : Hid (Calls Try.prog 6 #[] w fun e w' => e = .returned (.bool true) ∧ Aft w w') := Lib.hid (lives w)
  have HE : Hid (∀ w', Aft w w' → LivesP w (.returned (.bool true)) w') := Lib.hid fun w' h => ⟨rfl, h⟩
  generalize hP : LivesP w = Post at HE ⊢
  clear hP
  by_cases h1 : 60 < m
  · have h1' : (60 : Int) < (m : Int) := by omega
    clear h
    go_enter Try.func4, Try.ntmps4
    go_wp2_with (go_at_call 6; refine HL2.out.mono ?_; rintro e w' ⟨rfl, h2⟩; have H2 := Lib.hid h2; clear h2)
    exact HE.out _ H2.out
  · have h2 : 60 < n := by omega
    have h1' : ¬ (60 : Int) < (m : Int) := by omega
    have h2' : (60 : Int) < (n : Int) := by omega
    clear h
    go_enter Try.func4, Try.ntmps4
    go_wp2_with (go_at_call 6; refine HL2.out.mono ?_; rintro e w' ⟨rfl, h2⟩; have H2 := Lib.hid h2; clear h2)
    exact HE.out _ H2.out
set_option maxRecDepth 100000 in
set_option maxHeartbeats 4000000 in
theorem moves_no (v u : Value) (xs ys : List Int) (w : World) (hv : SL w v xs) (hu : SL w u ys) (hbx : Bd xs) (hby : Bd ys) (h1 : xs.length ≤ 60) (h2 : ys.length ≤ 60) (hbad : ¬ (Om.Rt xs ∧ xs.Perm ys)) :
    Calls Try.prog 4 #[v, u] w (LivesP w) := by
  have HE : Hid (∀ w', Aft w w' → LivesP w (.returned (.bool true)) w') := Lib.hid fun w' h => ⟨rfl, h⟩
  have HL : Hid (∀ w, Calls Try.prog 6 #[] w fun e w' => e = .returned (.bool true) ∧ Aft w w') := Lib.hid fun w => lives w
  have HS : Hid (ST w w [(v, xs), (u, ys)] []) := Lib.hid (((ST.start w).addI hu).addI hv)
  have HBX := Lib.hid hbx
  have HBY := Lib.hid hby
  have HSL : Hid (toPs (Om.stepsL xs ys) = []) := Lib.hid (by unfold Om.stepsL; rw [if_neg hbad]; rfl)
  have HSE : Hid (Om.stepsE xs ys = 8) := Lib.hid (by unfold Om.stepsE; rw [if_neg hbad])
  obtain ⟨ra, hra⟩ : ∃ x, Om.rightB xs = x := ⟨_, rfl⟩
  obtain ⟨rb, hrb⟩ : ∃ x, Om.rightB ys = x := ⟨_, rfl⟩
  obtain ⟨qb, hqb⟩ : ∃ x, Om.permB xs ys = x := ⟨_, rfl⟩
  have HN : Hid (ra = true → rb = true → qb = false) := Lib.hid fun e1 _ => by
    rw [← hqb]
    exact decide_eq_false fun h3 => hbad ⟨of_decide_eq_true (by rw [← e1, ← hra]; rfl), h3⟩
  have HRA := Lib.hid hra
  have HRB := Lib.hid hrb
  have HQB := Lib.hid hqb
  obtain ⟨⟨_, p, c, rfl, _⟩, _⟩ := hv
  obtain ⟨⟨_, q, d, rfl, _⟩, _⟩ := hu
  have h1' : ¬ (60 : Int) < (xs.length : Int) := by omega
  have h2' : ¬ (60 : Int) < (ys.length : Int) := by omega
  have h1l : xs.length ≤ 65536 := by omega
  have h2l : ys.length ≤ 65536 := by omega
  clear hbx hby hbad hra hrb hqb
  generalize LivesP w = Post at HE ⊢
  cases ra with
  | false =>
    clear HN
    go_enter Try.func4, Try.ntmps4
    go_wp2_with (first
      | (go_at_call 6; refine (HL.out _).mono ?_; rintro e w1 ⟨rfl, h2⟩; have HS1 := Lib.hid (HS.out.aft h2); clear h2)
      | (go_at_call 13; ((with_reducible refine (o_steps (HS1.out.i _ xs m0) h1l (HS1.out.i _ ys m1) HBX.out HBY.out [] 8 HSL.out HSE.out (by simp)).mono ?_); rintro e w2 ⟨p5, c5, rfl, _, _, h2⟩; have HS2 := Lib.hid (HS1.out.aft h2); clear h2))
      | (go_at_call 17; ((with_reducible refine (l_right (HS2.out.i _ xs m0) h1l (Aft.refl _) HBX.out false HRA.out).mono ?_); rintro e w3 ⟨rfl, h2⟩; have HS3 := Lib.hid (HS2.out.aft h2); clear h2)))
    exact HE.out _ HS3.out.1
  | true =>
    cases rb with
    | false =>
      clear HN
      go_enter Try.func4, Try.ntmps4
      go_wp2_with (first
        | (go_at_call 6; refine (HL.out _).mono ?_; rintro e w1 ⟨rfl, h2⟩; have HS1 := Lib.hid (HS.out.aft h2); clear h2)
        | (go_at_call 13; ((with_reducible refine (o_steps (HS1.out.i _ xs m0) h1l (HS1.out.i _ ys m1) HBX.out HBY.out [] 8 HSL.out HSE.out (by simp)).mono ?_); rintro e w2 ⟨p5, c5, rfl, _, _, h2⟩; have HS2 := Lib.hid (HS1.out.aft h2); clear h2))
        | (go_at_call 17; ((with_reducible refine (l_right (HS2.out.i _ xs m0) h1l (Aft.refl _) HBX.out true HRA.out).mono ?_); rintro e w3 ⟨rfl, h2⟩; have HS3 := Lib.hid (HS2.out.aft h2); clear h2))
        | (go_at_call 17; ((with_reducible refine (l_right (HS3.out.i _ ys m1) h2l (Aft.refl _) HBY.out false HRB.out).mono ?_); rintro e w3 ⟨rfl, h2⟩; have HS4 := Lib.hid (HS3.out.aft h2); clear h2)))
      exact HE.out _ HS4.out.1
    | true =>
      obtain rfl := HN.out rfl rfl
      clear HN
      go_enter Try.func4, Try.ntmps4
      go_wp2_with (first
        | (go_at_call 6; refine (HL.out _).mono ?_; rintro e w1 ⟨rfl, h2⟩; have HS1 := Lib.hid (HS.out.aft h2); clear h2)
        | (go_at_call 13; ((with_reducible refine (o_steps (HS1.out.i _ xs m0) h1l (HS1.out.i _ ys m1) HBX.out HBY.out [] 8 HSL.out HSE.out (by simp)).mono ?_); rintro e w2 ⟨p5, c5, rfl, _, _, h2⟩; have HS2 := Lib.hid (HS1.out.aft h2); clear h2))
        | (go_at_call 17; ((with_reducible refine (l_right (HS2.out.i _ xs m0) h1l (Aft.refl _) HBX.out true HRA.out).mono ?_); rintro e w3 ⟨rfl, h2⟩; have HS3 := Lib.hid (HS2.out.aft h2); clear h2))
        | (go_at_call 17; ((with_reducible refine (l_right (HS3.out.i _ ys m1) h2l (Aft.refl _) HBY.out true HRB.out).mono ?_); rintro e w3 ⟨rfl, h2⟩; have HS4 := Lib.hid (HS3.out.aft h2); clear h2))
        | (go_at_call 19; ((with_reducible refine (l_perm (HS4.out.i _ xs m0) h1l (Aft.refl _) (HS4.out.i _ ys m1) HBX.out HBY.out false HQB.out).mono ?_); rintro e w3 ⟨rfl, h2⟩; have HS5 := Lib.hid (HS4.out.aft h2); clear h2)))
      exact HE.out _ HS5.out.1
set_option maxRecDepth 100000 in
set_option maxHeartbeats 4000000 in
theorem moves_yes (v u : Value) (xs ys : List Int) (w : World) (hv : SL w v xs) (hu : SL w u ys) (hbx : Bd xs) (hby : Bd ys) (h1 : xs.length ≤ 60) (h2 : ys.length ≤ 60) (hrt : Om.Rt xs) (hpm : xs.Perm ys) :
    Calls Try.prog 4 #[v, u] w (LivesP w) := by
  have HE : Hid (∀ w', Aft w w' → LivesP w (.returned (.bool true)) w') := Lib.hid fun w' h => ⟨rfl, h⟩
  have HL : Hid (∀ w, Calls Try.prog 6 #[] w fun e w' => e = .returned (.bool true) ∧ Aft w w') := Lib.hid fun w => lives w
  have HS : Hid (ST w w [(v, xs), (u, ys)] []) := Lib.hid (((ST.start w).addI hu).addI hv)
  have HBX := Lib.hid hbx
  have HBY := Lib.hid hby
  have hF : Om.stepsL xs ys = Om.stepsF xs ys 0 := by unfold Om.stepsL; rw [if_pos ⟨hrt, hpm⟩]
  have HSE : Hid (Om.stepsE xs ys = 0) := Lib.hid (by unfold Om.stepsE; rw [if_pos ⟨hrt, hpm⟩])
  have HGO : Hid (Om.GoesTo xs (Om.stepsL xs ys) ys) := Lib.hid (by
    have := Om.steps_go ys [] xs hpm (by simpa using hrt.2)
    rw [hF]
    exact this)
  obtain ⟨ps, hps⟩ : ∃ ps, toPs (Om.stepsL xs ys) = ps := ⟨_, rfl⟩
  have hlen : ps.length = (Om.stepsL xs ys).length := by rw [← hps]; unfold toPs; rw [List.length_map]
  have HAP : Hid (∀ j k, j < k → k < ps.length → (ps.getD j F.Pai.zero).k ≠ (ps.getD k F.Pai.zero).k) := Lib.hid fun j k h1 h2 => by rw [← hps]; exact keys_apart (Om.rt_perm hpm hrt).2 xs hF h1 (by omega)
  have HSTEP : Hid (∀ zs k, k < ps.length → Om.GoesTo zs ((Om.stepsL xs ys).drop k) ys → Om.moveE zs (ps.getD k F.Pai.zero).k (ps.getD k F.Pai.zero).v = 0 ∧ Om.GoesTo (Om.moveL zs (ps.getD k F.Pai.zero).k (ps.getD k F.Pai.zero).v) ((Om.stepsL xs ys).drop (k + 1)) ys) := Lib.hid fun zs k hk h => by rw [← hps]; exact goes_toPs (by omega) h
  have HEND : Hid (∀ zs, Om.GoesTo zs ((Om.stepsL xs ys).drop ps.length) ys → zs = ys) := Lib.hid fun zs h => by rw [hlen, List.drop_length] at h; exact h
  have HNIL : Hid (decide (ps.length = 0) = decide (xs = ys)) := Lib.hid (by
    rw [decide_eq_decide, hlen, List.length_eq_zero_iff, hF]
    exact Om.steps_nil hrt hpm)
  have HVB : Hid (∀ k, -9223372036854775808 ≤ (ps.getD k F.Pai.zero).v ∧ (ps.getD k F.Pai.zero).v ≤ 9223372036854775807) := Lib.hid fun k => by rw [← hps]; exact steps_v_bd xs ys (by omega) k
  have hsl : ps.length ≤ 60 := by rw [← hps]; exact Nat.le_trans (steps_len xs ys) h2
  have HSL := Lib.hid hps
  obtain ⟨⟨_, p, c, rfl, _⟩, _⟩ := hv
  obtain ⟨⟨_, q, d, rfl, _⟩, _⟩ := hu
  have h1' : ¬ (60 : Int) < (xs.length : Int) := by omega
  have h2' : ¬ (60 : Int) < (ys.length : Int) := by omega
  have h1l : xs.length ≤ 65536 := by omega
  have h2l : ys.length ≤ 65536 := by omega
  clear hbx hby hrt hpm hps hlen hF
  generalize LivesP w = Post at HE ⊢
  go_enter Try.func4, Try.ntmps4
  go_wp2_with (first
    | (go_at_call 6; refine (HL.out _).mono ?_; rintro e w1 ⟨rfl, h2⟩; have HS1 := Lib.hid (HS.out.aft h2); clear h2)
    | (go_at_call 13; ((with_reducible refine (o_steps (HS1.out.i _ xs m0) h1l (HS1.out.i _ ys m1) HBX.out HBY.out ps 0 HSL.out HSE.out (by omega)).mono ?_); rintro e w2 ⟨p5, c5, rfl, hc5, h1, h2⟩; have HS2 := Lib.hid ((HS1.out.aft h2).addP h1); clear h1 h2)))
  go_loopg [7, 58] ps.length (fun gg s7 s58 wr => ∃ (k : Nat) (zs : List Int), s58 = .int .i64 k ∧ k ≤ ps.length ∧ ps.length - k ≤ gg ∧ zs.length ≤ 60 ∧ Hid (ST w wr [(s7, zs), (.slice p xs.length c, xs), (.slice q ys.length d, ys)] [(.slice p5 ps.length c5, ps)]) ∧ Hid (Om.GoesTo zs ((Om.stepsL xs ys).drop k) ys))
  case atStart => exact ⟨0, xs, rfl, Nat.zero_le _, by omega, h1, Lib.hid (HS2.out.addI (HS2.out.i _ xs m0)), Lib.hid (by rw [List.drop_zero]; exact HGO.out)⟩
  case round =>
    obtain ⟨k, zs, rfl, hk, hg, hzl, HST, HG⟩ := hrel
    by_cases hlt : k < ps.length
    · obtain ⟨p', c', hv', _, hcc⟩ := (HST.out.p _ ps m0).open_
      injection hv' with e1 _ e3
      subst e1
      subst e3
      obtain ⟨g, o, rfl, _, hgl, k0, k1⟩ := hcc k hlt
      have HM := Lib.hid (HSTEP.out zs k hlt HG.out)
      have HAPK : Hid (∀ j, j < k → (ps.getD j F.Pai.zero).k ≠ (ps.getD k F.Pai.zero).k) := Lib.hid fun j hj => HAP.out j k hj hlt
      have hvb := HVB.out k
      clear hcc
      generalize ps.getD k F.Pai.zero = y at k0 k1 HM HAPK hvb
      have hpc := pcut (some ⟨g, o, none⟩) ps.length c5 k (by omega)
      go_wp2
      obtain ⟨wA, hwA⟩ : ∃ wA, wA = wr := ⟨_, rfl⟩
      subst hwA
      go_loopg [67] k (fun g2 s67 wr => ∃ (j : Nat), s67 = .int .i64 j ∧ j ≤ k ∧ k - j ≤ g2 ∧ Hid (ST w wr [(u7, zs), (.slice p xs.length c, xs), (.slice q ys.length d, ys)] [(.slice (some ⟨g, o, none⟩) ps.length c5, ps)]) ∧ Hid (Box wr wA.heap.size y))
      case atStart => exact ⟨0, rfl, Nat.zero_le _, by omega, Lib.hid (HST.out.aft (Aft.one _)), Lib.hid ⟨by simp, by simp, by simp⟩⟩
      case round =>
        clear HST k0 k1
        obtain ⟨j, rfl, hj, hg2, HST, HBO⟩ := hrel
        by_cases hjk : j < k
        · obtain ⟨p', c', hv', _, hcc⟩ := (HST.out.p _ ps m0).open_
          injection hv' with e1 _ e3
          subst e3
          obtain ⟨g', o', hp', _, hgl, k0, k1⟩ := hcc j (by omega)
          have e2 := e1.trans hp'
          injection e2 with e2
          injection e2 with e2 e4
          subst e2
          subst e4
          have HNE := Lib.hid (HAPK.out j hjk)
          have hb1 := HBO.out.2.1
          have hblt := HBO.out.1
          clear hcc e1 hp'
          generalize ps.getD j F.Pai.zero = z at k0 k1 HNE
          have hd : (z.k == y.k) = false := by rw [beq_eq_false_iff_ne]; exact HNE.out
          have HST2 : Hid (∀ ob, ST w (wr.alloc ob) [(u7, zs), (.slice p xs.length c, xs), (.slice q ys.length d, ys)] [(.slice (some ⟨g, o, none⟩) ps.length c5, ps)] ∧ Box (wr.alloc ob) wA.heap.size y) := Lib.hid fun ob => ⟨HST.out.aft (Aft.one ob), HBO.out.aft (Aft.one ob)⟩
          go_wp2
          go_roundg (k - (j + 1))
          case measure => omega
          case rel => exact ⟨j + 1, by go_num, by omega, Nat.le_refl _, Lib.hid (HST2.out _).1, Lib.hid (HST2.out _).2⟩
        · have hb1 := HBO.out.2.1
          have hb2 := HBO.out.2.2
          have hblt := HBO.out.1
          have hml := move_len zs y.k y.v
          obtain ⟨ml, hmle⟩ : ∃ m, Om.moveL zs y.k y.v = m := ⟨_, rfl⟩
          rw [hmle] at hml
          have HML := Lib.hid hmle
          have HG2 : Hid (Om.GoesTo ml ((Om.stepsL xs ys).drop (k + 1)) ys) := Lib.hid (by rw [← hmle]; exact HM.out.2)
          have HME := Lib.hid HM.out.1
          have hmll : ml.length ≤ 65536 := by omega
          have hzll : zs.length ≤ 65536 := by omega
          clear hmle HM HG HAPK hpc
          go_wp2_with (go_at_call 11; ((with_reducible refine (l_move (HST.out.i _ zs m0) hzll (Aft.refl _) y.k y.v hvb ml 0 HML.out HME.out hmll).mono ?_); rintro e w4 ⟨v12, rfl, h1, h2⟩; have HA := Lib.hid (HST.out.aft h2); have H12 := Lib.hid h1; clear h1 h2))
          have HN : Hid (ST w w4 [(v12, ml), (.slice p xs.length c, xs), (.slice q ys.length d, ys)] [(.slice (some ⟨g, o, none⟩) ps.length c5, ps)]) := Lib.hid ⟨HA.out.1, (fun x hx => by
            rcases List.mem_cons.1 hx with rfl | hx
            · exact H12.out
            · exact HA.out.2.1 x (.tail _ hx)), HA.out.2.2⟩
          clear HA H12
          go_roundg (ps.length - (k + 1))
          case measure => omega
          case rel => exact ⟨k + 1, ml, by go_num, by omega, Nat.le_refl _, by omega, HN, HG2⟩
    · obtain rfl : k = ps.length := by omega
      have HZ := Lib.hid (HEND.out zs HG.out)
      have HD : Hid (decide (zs = ys) = true) := Lib.hid (decide_eq_true HZ.out)
      obtain ⟨eb, heb⟩ : ∃ b, decide (xs = ys) = b := ⟨_, rfl⟩
      have HEB := Lib.hid heb
      have HNIL2 : Hid (decide (ps.length = 0) = eb) := Lib.hid (by rw [HNIL.out, heb])
      have HN3 : Hid (((ps.length : Int) == 0) = eb) := Lib.hid (by
        rw [← HNIL2.out, Bool.eq_iff_iff]
        simp)
      have hN3 := HN3.out
      clear heb HG HNIL HNIL2 hlt
      generalize hpl : ps.length = n at *
      go_wp2_with (first
        | (go_at_call 21; ((with_reducible refine (p_sameB (HST.out.i _ zs m0) (HST.out.i _ ys m2) true HD.out).mono ?_); rintro e w5 ⟨rfl, h2⟩; have HS5 := Lib.hid (HST.out.aft h2); clear h2))
        | (go_at_call 21; ((with_reducible refine (p_sameB (HS5.out.i _ xs m1) (HS5.out.i _ ys m2) eb HEB.out).mono ?_); rintro e w6 ⟨rfl, h2⟩; have HS6 := Lib.hid (HS5.out.aft h2); clear h2)))
      exact HE.out _ HS6.out.1
end Go.Proofs.Ytphagkpnfbdncaa.Or
