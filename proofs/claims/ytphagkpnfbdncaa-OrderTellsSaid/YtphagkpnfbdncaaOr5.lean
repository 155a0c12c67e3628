/-
  Contract of order's Steps. Not a statement of the seat.
-/
import Derived.Test.YtphagkpnfbdncaaOr4
import Derived.Test.YtphagkpnfbdncaaFPai
namespace Go.Proofs.Ytphagkpnfbdncaa.Or
open Go.ChangeShapes Go.WideShapes Go.ChangeAt Go.RowKit Base Lst Go.Sort
def toP (x : Int × Int) : F.Pai := ⟨x.1, x.2⟩
def toPs (l : List (Int × Int)) : List F.Pai := l.map toP
theorem toPs_append (l m : List (Int × Int)) : toPs (l ++ m) = toPs l ++ toPs m := by unfold toPs; simp
theorem ownPai_mono {B B' : Nat} {w : World} {v : Value} {zs : List F.Pai} (h : F.OwnPai B w v zs) (hb : B' ≤ B) : F.OwnPai B' w v zs := by
  refine ⟨h.1, ?_⟩
  rcases h.2 with hn | ⟨g, cap, cur, hv, hB, rest⟩
  · exact .inl hn
  · exact .inr ⟨g, cap, cur, hv, Nat.le_trans hb hB, rest⟩
/-- What a call leaves that tells pairs and an error. -/
def PairsErr (ys : List F.Pai) (x : Int) (w : World) (e : Ending) (w' : World) : Prop := ∃ v, e = .returned (.tuple #[v, .int .i64 x]) ∧ F.OwnPai w.heap.size w' v ys ∧ Below w.heap.size w w'
/-- What stands at the beginning of the world: the map of those met, the moves told. -/
def SI (w wr : World) (bm k : Nat) (ms : List Int) (v6 : Value) (out : List (Int × Int)) : Prop := w.heap.size ≤ bm ∧ Met wr bm k ms ∧ F.OwnPai (bm + 1) wr v6 (toPs out) ∧ Below w.heap.size w wr
theorem SI.lay {w wr : World} {bm k : Nat} {ms : List Int} {v6 : Value} {out : List (Int × Int)} (h : SI w wr bm k ms v6 out) (x i : Int) {v' : Value} {w' : World} (ho : F.OwnPai (bm + 1) w' v' (toPs out ++ [⟨x, i⟩])) (hg : (wr.alloc (.cells #[.int .i64 x, .int .i64 i] 38)).grownBy w' v6.ownBlock) : SI w w' bm k ms v' (out ++ [(x, i)]) := by
  obtain ⟨h1, h2, h3, h4⟩ := h
  refine ⟨h1, (Mp.MB.lay h2 rfl _).kept hg (fun e => ?_), by rw [toPs_append]; exact ho, (h4.alloc h4.size _).grown hg (by have := h4.size; simp; omega) (fun j hj => ?_)⟩
  · have := (h3.base bm e.symm).1
    omega
  · have := (h3.base j hj).1
    omega
theorem SI.put {w wr w' : World} {bm k : Nat} {ms ms' : List Int} {v6 : Value} {out : List (Int × Int)} (h : SI w wr bm k ms v6 out) (hm : Met w' bm (k + 1) ms') (hg : wr.grownBy w' (some bm)) : SI w w' bm (k + 1) ms' v6 out :=
  ⟨h.1, hm, h.2.2.1.kept hg (.inr fun e => by have := (h.2.2.1.base bm e).1; omega), h.2.2.2.grown hg h.2.2.2.size (fun j hj => by cases hj; exact h.1)⟩
/-- A list that isn't empty: its first one, and the rest. -/
theorem Sl.head {w : World} {u : Value} {zs : List Int} (h : Sl w u zs) (hne : 0 < zs.length) : ∃ g o m c, u = .slice (some ⟨g, o, none⟩) m c ∧ 0 < m ∧ g < w.heap.size ∧ w.cell? ⟨g, o, none⟩ = some (.int .i64 (zs.getD 0 0)) ∧
    ∃ u', (∀ w, (Instr.sliceAt 22 (.slice (some ⟨g, o, none⟩) m c) (some (.int .i64 1)) none none).run Try.prog w = .ok u' w) ∧ Sl w u' (zs.drop 1) := by
  obtain ⟨hi, p, c, rfl, hc⟩ := h
  obtain ⟨p', c', hv, _, hcell⟩ := hi.open_
  injection hv with e1 _ e3
  subst e1 e3
  obtain ⟨g, o, rfl, _, hg, h0⟩ := hcell 0 hne
  refine ⟨g, o, _, c, rfl, hne, hg, by simpa using h0, ?_⟩
  obtain ⟨u', hr, hu⟩ := hi.slice_l rfl 1 (by omega) hc
  refine ⟨u', hr, hu, ?_⟩
  have h9 := hr w
  rw [run_sliceAt_slice _ _ _ _ _ _ elemInts, run_slice_l w _ _ _ _ elemInts _ _ (by omega) (by omega), elemInts', sizeInt] at h9
  have e : u' = sliced (some ⟨g, o, none⟩) 1 zs.length c 1 := by
    injection h9 with h9
    exact h9.symm
  rw [e]
  refine ⟨_, _, by rw [List.length_drop]; rfl, by rw [List.length_drop]; omega⟩
theorem getD_drop (xs : List Int) (j : Nat) : (xs.drop j).getD 0 0 = xs.getD j 0 := by simp [List.getD_eq_getElem?_getD]
theorem slices_drop {w : World} {u : Value} {xs : List Int} {j : Nat} (h : Sl w u ((xs.drop j).drop 1)) : Sl w u (xs.drop (j + 1)) := by rwa [List.drop_drop] at h
set_option maxHeartbeats 4000000 in
theorem steps_any {v u : Value} {xs ys : List Int} (w : World) (h : Sl w v xs) (hu : Ints 0 w u ys) (hx : xs.length ≤ 100000) (hbx : Bd xs) (hby : Bd ys) : Calls Try.prog 13 #[v, u] w (PairsErr (toPs (Om.stepsL xs ys)) (Om.stepsE xs ys) w) := by
  have HR : Hid (∀ w', Below w.heap.size w w' → Calls Try.prog 17 #[v] w' (BoolNew (Om.rightB xs) w')) := Lib.hid fun w' hb => right_any w' (h.below hb).1 (by omega) hbx
  have HP : Hid (∀ w', Below w.heap.size w w' → Calls Try.prog 19 #[v, u] w' (BoolNew (Om.permB xs ys) w')) := Lib.hid fun w' hb => perm_any w' (h.below hb).1 (hu.below hb) (by omega) hbx hby
  have HE : Hid (∀ v1 e w', e = Om.stepsE xs ys → F.OwnPai w.heap.size w' v1 (toPs (Om.stepsL xs ys)) → Below w.heap.size w w' → PairsErr (toPs (Om.stepsL xs ys)) (Om.stepsE xs ys) w (.returned (.tuple #[v1, .int .i64 e])) w') := Lib.hid fun v1 e w' h1 h2 h3 => ⟨v1, by rw [h1], h2, h3⟩
  cases hr : Om.rightB xs with
  | false =>
    rw [hr] at HR
    have hn : ¬ (Om.Rt xs ∧ xs.Perm ys) := fun hh => by
      have := of_decide_eq_false hr
      exact this hh.1
    have HS : Hid (Om.stepsL xs ys = [] ∧ Om.stepsE xs ys = 8) := Lib.hid ⟨by unfold Om.stepsL; rw [if_neg hn], by unfold Om.stepsE; rw [if_neg hn]⟩
    generalize PairsErr (toPs (Om.stepsL xs ys)) (Om.stepsE xs ys) w = Post at HE ⊢
    clear h hu hbx hby hr hn HP
    go_enter Try.func13, Try.ntmps13
    go_wp2_with (go_at_call 17; refine (HR.out _ (Below.refl _ _)).mono ?_; rintro e w1 ⟨rfl, h1⟩; have H1 := Lib.hid h1; clear h1)
    exact HE.out _ _ _ HS.out.2.symm (by rw [HS.out.1]; exact F.OwnPai.nil _ _) H1.out
  | true =>
    rw [hr] at HR
    have hrt : Om.Rt xs := of_decide_eq_true hr
    cases hp : Om.permB xs ys with
    | false =>
      rw [hp] at HP
      have hn : ¬ (Om.Rt xs ∧ xs.Perm ys) := fun hh => by
        have := of_decide_eq_false hp
        exact this hh.2
      have HS : Hid (Om.stepsL xs ys = [] ∧ Om.stepsE xs ys = 8) := Lib.hid ⟨by unfold Om.stepsL; rw [if_neg hn], by unfold Om.stepsE; rw [if_neg hn]⟩
      generalize PairsErr (toPs (Om.stepsL xs ys)) (Om.stepsE xs ys) w = Post at HE ⊢
      clear h hu hbx hby hr hp hn hrt
      go_enter Try.func13, Try.ntmps13
      go_wp2_with (first
        | (go_at_call 17; refine (HR.out _ (Below.refl _ _)).mono ?_; rintro e w1 ⟨rfl, h1⟩; have H1 := Lib.hid h1; clear h1)
        | (go_at_call 19; refine (HP.out _ H1.out).mono ?_; rintro e w2 ⟨rfl, h2⟩; have H2 := Lib.hid (H1.out.trans (h2.mono H1.out.size)); clear h2))
      exact HE.out _ _ _ HS.out.2.symm (by rw [HS.out.1]; exact F.OwnPai.nil _ _) H2.out
    | true =>
      rw [hp] at HP
      have hpm : xs.Perm ys := of_decide_eq_true hp
      have HS : Hid (Om.stepsL xs ys = Om.stepsF xs ys 0 ∧ Om.stepsE xs ys = 0) := Lib.hid ⟨by unfold Om.stepsL; rw [if_pos ⟨hrt, hpm⟩], by unfold Om.stepsE; rw [if_pos ⟨hrt, hpm⟩]⟩
      have HLEFT : Hid (∀ k, (Om.left (ys.take k) xs).Perm (ys.drop k)) := Lib.hid fun k => Om.left_perm k xs ys hpm hrt.2
      have hly : ys.length ≤ 100000 := by rw [← hpm.length_eq]; exact hx
      obtain ⟨q, c', rfl, hl', hc'⟩ := hu.open_
      have HU := Lib.hid hc'
      have HV := Lib.hid h
      have HBX := Lib.hid hbx
      have HBY := Lib.hid hby
      clear hc' hu h hr hp hrt hpm hbx hby
      generalize PairsErr (toPs (Om.stepsL xs ys)) (Om.stepsE xs ys) w = Post at HE ⊢
      go_enter Try.func13, Try.ntmps13
      have hmm := @run_makeMap Try.prog
      go_wp2_with (first
        | (go_at_call 17; refine (HR.out _ (Below.refl _ _)).mono ?_; rintro e w1 ⟨rfl, h1⟩; have H1 := Lib.hid h1; clear h1)
        | (go_at_call 19; refine (HP.out _ H1.out).mono ?_; rintro e w2 ⟨rfl, h2⟩; have H2 := Lib.hid (H1.out.trans (h2.mono H1.out.size)); clear h2))
      go_loopg [6, 8, 24] ys.length (fun gg s6 s8 s24 wr => ∃ (k j : Nat) (out : List (Int × Int)), s24 = .int .i64 k ∧ k ≤ ys.length ∧ ys.length - k ≤ gg ∧ out.length ≤ k ∧ Hid (SI w wr w2.heap.size k (ys.take k) s6 out) ∧ Hid (Sl w s8 (xs.drop j)) ∧ Hid (Om.left (ys.take k) (xs.drop j) = Om.left (ys.take k) xs) ∧ Hid (out ++ Om.stepsF (Om.left (ys.take k) xs) (ys.drop k) k = Om.stepsF xs ys 0))
      case atStart =>
        refine ⟨0, 0, [], rfl, Nat.zero_le _, by omega, Nat.le_refl _, Lib.hid ⟨H2.out.size, met_made (heap_alloc_at _ _ _ rfl), F.OwnPai.nil _ _, H2.out.alloc H2.out.size _⟩, Lib.hid HV.out, Lib.hid (by simp), Lib.hid (by simp [Om.left_nil])⟩
      case round =>
        obtain ⟨k, j, out, rfl, hk, hg, hol, HSI, HSL, HLJ, HST⟩ := hrel
        by_cases hlt : k < ys.length
        · obtain ⟨g', o', rfl, _, hg', hcell0⟩ := HU.out k hlt
          have hcell := (HSI.out.2.2.2.cell (p := ⟨g', o' + k, none⟩) hg').trans hcell0
          have hby := HBY.out.at k
          have HSTEP := Lib.hid (Om.way_step hlt HST.out)
          have HTK : Hid (ys.take (k + 1) = ys.take k ++ [ys.getD k 0]) := Lib.hid (Om.take_snoc ys k hlt)
          have HNE : Hid (Om.left (ys.take k) xs ≠ []) := Lib.hid fun e => by
            have := (HLEFT.out k).length_eq
            rw [e, List.length_drop] at this
            simp at this
            omega
          clear hcell0 HST
          generalize ys.getD k 0 = y at hcell hby HSTEP HTK
          go_wp2
          obtain ⟨wA, hwA⟩ : ∃ wA, wA = wr := ⟨_, rfl⟩
          subst hwA
          go_loopg [8] xs.length (fun g2 s8 wr => ∃ (j : Nat), wr = wA ∧ xs.length - j ≤ g2 ∧ Hid (Sl w s8 (xs.drop j)) ∧ Hid (Om.left (ys.take k) (xs.drop j) = Om.left (ys.take k) xs))
          case atStart => exact ⟨j, rfl, by omega, HSL, HLJ⟩
          case round =>
            clear HSL HLJ
            obtain ⟨j, rfl, hg2, HSL, HLJ⟩ := hrel
            have hj : j < xs.length := Om.left_there (by rw [HLJ.out]; exact HNE.out)
            have hbx := HBX.out.at j
            have hrun := met_look HSI.out.2.1 (xs.getD j 0) hbx
            obtain ⟨g, o, m, c, rfl, hm, hgw, hc0, u', hsl, HU'⟩ := HSL.out.head (by rw [List.length_drop]; omega)
            rw [getD_drop] at hc0
            have hc1 := (HSI.out.2.2.2.cell (p := ⟨g, o, none⟩) hgw).trans hc0
            have HSL2 := Lib.hid (slices_drop HU')
            have HIN : Hid (xs.getD j 0 ∈ ys.take k → Om.left (ys.take k) (xs.drop (j + 1)) = Om.left (ys.take k) xs) := Lib.hid fun h => by rw [Om.left_drop hj h, HLJ.out]
            have HOUT : Hid (xs.getD j 0 ∉ ys.take k → (Om.left (ys.take k) xs).head? = some (xs.getD j 0)) := Lib.hid fun h => by rw [← HLJ.out]; exact Om.left_head hj h
            have hm' : (0 : Int) < (m : Int) := by omega
            clear hc0 HU'
            generalize xs.getD j 0 = z at hbx hrun hc1 HIN HOUT
            by_cases hin : z ∈ ys.take k
            · rw [decide_eq_true hin] at hrun
              have HL2 := Lib.hid (HIN.out hin)
              clear HIN HOUT hin HSTEP
              go_wp2
              go_roundg (xs.length - (j + 1))
              case measure => omega
              case rel => exact ⟨j + 1, rfl, Nat.le_refl _, HSL2, HL2⟩
            · rw [decide_eq_false hin] at hrun
              have HH := Lib.hid (HOUT.out hin)
              clear HIN HOUT hin
              have HL3 : Hid (Om.left (ys.take (k + 1)) (xs.drop j) = Om.left (ys.take (k + 1)) xs) := Lib.hid (by rw [HTK.out, Om.left_snoc, Om.left_snoc, HLJ.out])
              have hkl : k < maxLen := by simp only [maxLen]; omega
              by_cases hzy : z = y
              · have hd : (z != y) = false := by rw [bne_eq_false_iff_eq]; exact hzy
                have HST3 : Hid (out ++ Om.stepsF (Om.left (ys.take (k + 1)) xs) (ys.drop (k + 1)) (k + 1) = Om.stepsF xs ys 0) := Lib.hid (by
                  have := HSTEP.out
                  rw [if_pos (by rw [HH.out, hzy]), List.append_nil] at this
                  exact this)
                clear HSTEP HH hzy HLJ
                go_wp2_with (at_mapUpdate; refine met_store rfl _ _ _ rfl HSI.out.2.1 hkl rfl y rfl hby rfl ?_; intro w3 hm3 hg3; have HS3 := Lib.hid (HSI.out.put (ms' := ys.take (k + 1)) (by rw [HTK.out]; exact hm3) hg3); clear hm3 hg3)
                go_roundg (ys.length - (k + 1))
                case measure => omega
                case rel => exact ⟨k + 1, j, out, by go_num, by omega, Nat.le_refl _, by omega, HS3, HSL, HL3, HST3⟩
              · have hd : (z != y) = true := by rw [bne_iff_ne]; exact hzy
                have HST3 : Hid ((out ++ [(y, (k : Int))]) ++ Om.stepsF (Om.left (ys.take (k + 1)) xs) (ys.drop (k + 1)) (k + 1) = Om.stepsF xs ys 0) := Lib.hid (by
                  have := HSTEP.out
                  rw [if_neg (by rw [HH.out]; simpa using hzy)] at this
                  exact this)
                have hol2 : (toPs out).length + 1 ≤ 1000000 := by unfold toPs; rw [List.length_map]; omega
                clear HSTEP HH hzy HLJ
                go_wp2_with (first
                  | (at_builtin; refine F.append_pais rfl (.tmp 41) (.tmp 45) rfl (Nat.le_trans HSI.out.2.1.lt (by simp)) (F.OwnPai.lay HSI.out.2.2.1 rfl _) rfl (F.pai_lit ⟨y, k⟩ _) rfl hol2 ?_; intro v5 w5 h5 hg5 _; have HS5 := Lib.hid (HSI.out.lay y k h5 hg5); clear h5 hg5)
                  | (at_mapUpdate; refine met_store rfl _ _ _ rfl HS5.out.2.1 hkl rfl y rfl hby rfl ?_; intro w3 hm3 hg3; have HS3 := Lib.hid (HS5.out.put (ms' := ys.take (k + 1)) (by rw [HTK.out]; exact hm3) hg3); clear hm3 hg3))
                go_roundg (ys.length - (k + 1))
                case measure => omega
                case rel => exact ⟨k + 1, j, out ++ [(y, (k : Int))], by go_num, by omega, Nat.le_refl _, by simp; omega, HS3, HSL, HL3, HST3⟩
        · obtain rfl : k = ys.length := by omega
          have HOUT : Hid (out = Om.stepsL xs ys) := Lib.hid (by
            have := HST.out
            rw [List.drop_length] at this
            rw [HS.out.1, ← this]
            simp [Om.stepsF])
          clear HST HSL HLJ hlt
          go_wp2
          exact HE.out _ _ _ HS.out.2.symm (by rw [← HOUT.out]; exact ownPai_mono HSI.out.2.2.1 (by have := HSI.out.1; omega)) HSI.out.2.2.2
end Go.Proofs.Ytphagkpnfbdncaa.Or
