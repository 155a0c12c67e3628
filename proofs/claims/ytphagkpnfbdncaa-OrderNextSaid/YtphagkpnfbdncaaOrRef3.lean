/-
  Contract of the document's own answer on orders: Steps. Not a statement of the seat.
-/
import Derived.Test.YtphagkpnfbdncaaOrRef2
import Derived.Test.YtphagkpnfbdncaaOr5
namespace Go.Proofs.Ytphagkpnfbdncaa.Or
open Go.ChangeShapes Go.WideShapes Go.ChangeAt Go.RowKit Base Lst
theorem sl_kept {w w' : World} {v : Value} {xs : List Int} {row : Option Nat} (h : SL w v xs) (hg : w.grownBy w' row) (hne : 0 < xs.length → ∀ g o n c, v = .slice (some ⟨g, o, none⟩) n c → some g ≠ row) : SL w' v xs := by
  refine ⟨⟨?_, h.1.2⟩, h.2⟩
  rcases h.1.1 with h | ⟨g, o, c, hv, h1, h2, h3, h4⟩
  · exact .inl h
  · refine .inr ⟨g, o, c, hv, h1, Nat.lt_of_lt_of_le h2 hg.size, h3, fun k hk => ?_⟩
    rw [World.cell?_of_block (w := w) (a := ⟨g, o + k, none⟩) (hg.block g h2 (hne (by omega) g o _ c hv))]
    exact h4 k hk
/-- The order as it is, the moves told: in unlike blocks. -/
def RI (w wr : World) (u : Value) (zs : List Int) (v6 : Value) (out : List (Int × Int)) : Prop :=
  SL wr u zs ∧ (0 < zs.length → ∀ g o n c, u = .slice (some ⟨g, o, none⟩) n c → g < wr.heap.size ∧ v6.ownBlock ≠ some g) ∧ F.OwnPai w.heap.size wr v6 (toPs out) ∧ Below w.heap.size w wr
theorem RI.turn {w wr w1 : World} {u u1 v6 : Value} {zs zs1 : List Int} {out : List (Int × Int)} (h : RI w wr u zs v6 out) (hl : zs1.length ≤ 1000000) (ho : OwnI wr.heap.size w1 u1 zs1) (hb : Below wr.heap.size wr w1) : RI w w1 u1 zs1 v6 out := by
  refine ⟨own_sl ho hl, fun _ g o n c e => ?_, h.2.2.1.below hb, h.2.2.2.trans (hb.mono h.2.2.2.size)⟩
  rcases ho.2 with ⟨hv, _⟩ | ⟨g', cap, cur, hv, hB, hg, _⟩
  · rw [e] at hv; cases hv
  · rw [e] at hv
    injection hv with e1 _ _
    injection e1 with e1
    injection e1 with e1 _
    subst e1
    refine ⟨heap_lt hg, fun e2 => ?_⟩
    have := (h.2.2.1.base _ e2).2
    omega
theorem RI.put {w wr : World} {u v6 : Value} {zs : List Int} {out : List (Int × Int)} (h : RI w wr u zs v6 out) (x i : Int) {v' : Value} {w' : World} (ho : F.OwnPai w.heap.size w' v' (toPs out ++ [⟨x, i⟩])) (hg : (wr.alloc (.cells #[.int .i64 x, .int .i64 i] 38)).grownBy w' v6.ownBlock)
    (hat : v'.ownBlock = v6.ownBlock ∨ v'.ownBlock = some (wr.alloc (.cells #[.int .i64 x, .int .i64 i] 38)).heap.size) : RI w w' u zs v' (out ++ [(x, i)]) := by
  obtain ⟨h1, h2, h3, h4⟩ := h
  have hs : SL (wr.alloc (.cells #[.int .i64 x, .int .i64 i] 38)) u zs := h1.below ((Below.refl _ _).alloc (Nat.le_refl _) _)
  refine ⟨sl_kept hs hg (fun hp g o n c e e2 => (h2 hp g o n c e).2 e2.symm), fun hp g o n c e => ⟨?_, fun e2 => ?_⟩, by rw [toPs_append]; exact ho, (h4.alloc h4.size _).grown hg (by have := h4.size; simp; omega) (fun j hj => (h3.base j hj).1)⟩
  · have := (h2 hp g o n c e).1
    have h9 := hg.size
    simp only [World.size_alloc] at h9
    omega
  · rcases hat with hat | hat
    · exact (h2 hp g o n c e).2 (by rw [← hat, e2])
    · rw [hat] at e2
      injection e2 with e2
      have := (h2 hp g o n c e).1
      simp only [World.size_alloc] at e2
      omega
theorem RI.start {w : World} {v : Value} {xs : List Int} (h : SL w v xs) : RI w w v xs (.slice none 0 0) [] :=
  ⟨h, fun hp g o n c e => ⟨by
    rcases h.1.1 with ⟨_, h0⟩ | ⟨g', o', c', hv, _, h2, _⟩
    · rw [h0] at hp; exact absurd hp (by simp)
    · rw [e] at hv
      injection hv with e1 _ _
      injection e1 with e1
      injection e1 with e1 _
      rw [e1]; exact h2, by simp [Value.ownBlock]⟩, F.OwnPai.nil _ _, Below.refl _ _⟩
theorem way_len {xs ys : List Int} (hp : xs.Perm ys) (hn : xs.Nodup) (k : Nat) (hk : k ≤ ys.length) : (ys.take k ++ Om.left (ys.take k) xs).length = ys.length := by
  rw [List.length_append, (Om.left_perm k xs ys hp hn).length_eq, List.length_take, List.length_drop]
  omega
set_option maxHeartbeats 4000000 in
theorem rsteps_any {v u : Value} {xs ys : List Int} (w : World) (h : SL w v xs) (hu : SL w u ys) (hx : xs.length ≤ 100000) (hy : ys.length ≤ 100000) (hby : Bd ys) : Calls Try.prog 14 #[v, u] w (PairsErr (toPs (Om.stepsL xs ys)) (Om.stepsE xs ys) w) := by
  have HR1 := Lib.hid (rright_any w h.1 (by omega))
  have HR2 := Lib.hid (rright_any w hu.1 (by omega))
  have HP := Lib.hid (rperm_any w h.1.1 hu.1.1 (by omega))
  have HE : Hid (∀ v1 e w', e = Om.stepsE xs ys → F.OwnPai w.heap.size w' v1 (toPs (Om.stepsL xs ys)) → Below w.heap.size w w' → PairsErr (toPs (Om.stepsL xs ys)) (Om.stepsE xs ys) w (.returned (.tuple #[v1, .int .i64 e])) w') := Lib.hid fun v1 e w' h1 h2 h3 => ⟨v1, by rw [h1], h2, h3⟩
  by_cases hgood : Om.Rt xs ∧ xs.Perm ys
  · have hry : Om.Rt ys := Om.rt_perm hgood.2 hgood.1
    have HS : Hid (Om.stepsL xs ys = Om.stepsF xs ys 0 ∧ Om.stepsE xs ys = 0) := Lib.hid ⟨by unfold Om.stepsL; rw [if_pos hgood], by unfold Om.stepsE; rw [if_pos hgood]⟩
    rw [show Om.rightB xs = true from decide_eq_true hgood.1] at HR1
    rw [show Om.rightB ys = true from decide_eq_true hry] at HR2
    rw [show Om.permB xs ys = true from decide_eq_true hgood.2] at HP
    have HPM := Lib.hid hgood
    have HSTART := Lib.hid (RI.start h)
    have HBY := Lib.hid hby
    obtain ⟨⟨hui, q, c', hu', hqc⟩, hu0⟩ := hu
    subst hu'
    obtain ⟨q', c'', hv', hl', hc'⟩ := hui.open_
    injection hv' with e1 _ e3
    subst e1 e3
    have HU := Lib.hid hc'
    clear hc' hui hu0 h hby hry hgood
    generalize PairsErr (toPs (Om.stepsL xs ys)) (Om.stepsE xs ys) w = Post at HE ⊢
    go_enter Try.func14, Try.ntmps14
    go_wp2_with (first
      | (go_at_call 18; ((with_reducible refine HR1.out.mono ?_); rintro e w' ⟨rfl, rfl⟩))
      | (go_at_call 18; ((with_reducible refine HR2.out.mono ?_); rintro e w' ⟨rfl, rfl⟩))
      | (go_at_call 20; refine HP.out.mono ?_; rintro e w' ⟨rfl, rfl⟩))
    go_loopg [0, 6, 27] ys.length (fun gg s0 s6 s27 wr => ∃ (k : Nat) (out : List (Int × Int)), s27 = .int .i64 k ∧ k ≤ ys.length ∧ ys.length - k ≤ gg ∧ out.length ≤ k ∧ Hid (RI w wr s0 (ys.take k ++ Om.left (ys.take k) xs) s6 out) ∧ Hid (out ++ Om.stepsF (Om.left (ys.take k) xs) (ys.drop k) k = Om.stepsF xs ys 0))
    case atStart => exact ⟨0, [], rfl, Nat.zero_le _, by omega, Nat.le_refl _, Lib.hid (by simpa [Om.left_nil] using HSTART.out), Lib.hid (by simp [Om.left_nil])⟩
    case round =>
      obtain ⟨k, out, rfl, hk, hg, hol, HRI, HST⟩ := hrel
      by_cases hlt : k < ys.length
      · obtain ⟨g', o', rfl, _, hg', hcell0⟩ := HU.out k hlt
        have hcell := (HRI.out.2.2.2.cell (p := ⟨g', o' + k, none⟩) hg').trans hcell0
        have HSTEP := Lib.hid (Om.way_step hlt HST.out)
        have HTK : Hid (ys.take (k + 1) = ys.take k ++ [ys.getD k 0]) := Lib.hid (Om.take_snoc ys k hlt)
        have hbn := HBY.out.at k
        have HLP : Hid ((Om.left (ys.take k) xs).Perm (ys.getD k 0 :: ys.drop (k + 1)) ∧ (Om.left (ys.take k) xs).Nodup ∧ ys.getD k 0 ∈ Om.left (ys.take k) xs ∧ ys.getD k 0 ∉ ys.take k ∧ (ys.take k).length = k) := Lib.hid (by
          have h1 := Om.left_perm k xs ys HPM.out.2 HPM.out.1.2
          rw [List.drop_eq_getElem_cons hlt] at h1
          have e : ys[k] = ys.getD k 0 := by rw [List.getD_eq_getElem?_getD, List.getElem?_eq_getElem hlt]; rfl
          rw [e] at h1
          have hry := (Om.rt_perm HPM.out.2 HPM.out.1).2
          have h2 := Om.take_snoc ys k hlt
          have h3 : (ys.take k ++ [ys.getD k 0]).Nodup := by rw [← h2]; exact hry.sublist (List.take_sublist _ _)
          rw [List.nodup_append] at h3
          exact ⟨h1, HPM.out.1.2.sublist List.filter_sublist, h1.mem_iff.2 (by simp), fun h => h3.2.2 _ h _ (by simp) rfl, by rw [List.length_take]; omega⟩)
        have HWL := Lib.hid (way_len HPM.out.2 HPM.out.1.2 k hk)
        obtain ⟨z, rest, hz⟩ : ∃ z rest, Om.left (ys.take k) xs = z :: rest := by
          cases hl : Om.left (ys.take k) xs with
          | nil => have := HLP.out.2.2.1; rw [hl] at this; cases this
          | cons z rest => exact ⟨z, rest, rfl⟩
        have HZ : Hid ((ys.take k ++ Om.left (ys.take k) xs).getD k 0 = z) := Lib.hid (by
          rw [hz, List.getD_eq_getElem?_getD, List.getElem?_append, HLP.out.2.2.2.2, if_neg (by omega)]
          simp)
        have HH : Hid ((Om.left (ys.take k) xs).head? = some z) := Lib.hid (by rw [hz]; rfl)
        obtain ⟨p0, c0, hv0, hl0, hcc0⟩ := HRI.out.1.1.1.open_
        obtain ⟨g0, o0, hp0, _, hgl0, hcz⟩ := hcc0 k (by rw [HWL.out]; exact hlt)
        rw [HZ.out] at hcz
        rw [HWL.out] at hv0
        subst hp0
        subst hv0
        clear hcell0 HST hcc0 hz hl0
        have HMV : Hid (ys.getD k 0 ≠ z → Om.moveL (ys.take k ++ Om.left (ys.take k) xs) (ys.getD k 0) (k : Int) = ys.take (k + 1) ++ Om.left (ys.take (k + 1)) xs ∧ Om.moveE (ys.take k ++ Om.left (ys.take k) xs) (ys.getD k 0) (k : Int) = 0) := Lib.hid fun _ => by
          have := Om.moved_done HLP.out.2.2.1 HLP.out.2.2.2.1 HLP.out.2.1
          rw [HLP.out.2.2.2.2] at this
          rw [HTK.out, Om.left_snoc]
          exact this
        have HSAME : Hid (ys.getD k 0 = z → ys.take k ++ Om.left (ys.take k) xs = ys.take (k + 1) ++ Om.left (ys.take (k + 1)) xs) := Lib.hid fun e => by
          have h1 := Om.head_done (x := ys.getD k 0) (by rw [HH.out, e]) HLP.out.2.1
          rw [HTK.out, Om.left_snoc, List.append_assoc, List.singleton_append, ← h1]
        have HMC := Lib.hid (rmove_any (ys.getD k 0) (k : Int) wr HRI.out.1 (by rw [HWL.out]; exact hy))
        have HML : Hid ((ys.take (k + 1) ++ Om.left (ys.take (k + 1)) xs).length ≤ 1000000) := Lib.hid (by rw [way_len HPM.out.2 HPM.out.1.2 (k + 1) (by omega)]; omega)
        generalize ys.getD k 0 = y at hcell hbn HSTEP HTK HLP HMV HSAME HMC
        by_cases hzy : y = z
        · have hd : (z != y) = false := by rw [bne_eq_false_iff_eq]; exact hzy.symm
          have HST3 : Hid (out ++ Om.stepsF (Om.left (ys.take (k + 1)) xs) (ys.drop (k + 1)) (k + 1) = Om.stepsF xs ys 0) := Lib.hid (by
            have := HSTEP.out
            rw [if_pos (by rw [HH.out, hzy]), List.append_nil] at this
            exact this)
          have HR3 := Lib.hid (HRI.out)
          rw [HSAME.out hzy] at HR3
          clear HSTEP HH hzy HRI HMC HMV HSAME HLP HZ HTK
          go_wp2
          go_roundg (ys.length - (k + 1))
          case measure => omega
          case rel => exact ⟨k + 1, out, by go_num, by omega, Nat.le_refl _, by omega, HR3, HST3⟩
        · have hd : (z != y) = true := by rw [bne_iff_ne]; exact fun e => hzy e.symm
          have HST3 : Hid ((out ++ [(y, (k : Int))]) ++ Om.stepsF (Om.left (ys.take (k + 1)) xs) (ys.drop (k + 1)) (k + 1) = Om.stepsF xs ys 0) := Lib.hid (by
            have := HSTEP.out
            rw [if_neg (by rw [HH.out]; simpa using fun e => hzy e.symm)] at this
            exact this)
          have hol2 : (toPs out).length + 1 ≤ 1000000 := by unfold toPs; rw [List.length_map]; omega
          have HMC2 := Lib.hid (HMC.out)
          rw [(HMV.out hzy).1, (HMV.out hzy).2] at HMC2
          clear HSTEP HH hzy HMC HMV HSAME HLP HZ HTK
          go_wp2_with (first
            | (go_at_call 12; refine HMC2.out.mono ?_; rintro e w1 ⟨v1, rfl, h1, h2⟩; have H1 := Lib.hid (HRI.out.turn HML.out h1 h2); clear h1 h2)
            | (at_builtin; refine F.append_pais rfl (.tmp 46) (.tmp 50) rfl (Nat.le_trans H1.out.2.2.2.size (by simp)) (F.OwnPai.lay H1.out.2.2.1 rfl _) rfl (F.pai_lit ⟨y, k⟩ _) rfl hol2 ?_; intro v5 w5 h5 hg5 hat5; have HS5 := Lib.hid (H1.out.put y k h5 hg5 hat5); clear h5 hg5 hat5))
          go_roundg (ys.length - (k + 1))
          case measure => omega
          case rel => exact ⟨k + 1, out ++ [(y, (k : Int))], by go_num, by omega, Nat.le_refl _, by simp; omega, HS5, HST3⟩
      · obtain rfl : k = ys.length := by omega
        have HOUT : Hid (out = Om.stepsL xs ys) := Lib.hid (by
          have := HST.out
          rw [List.drop_length] at this
          rw [HS.out.1, ← this]
          simp [Om.stepsF])
        clear HST hlt
        go_wp2
        exact HE.out _ _ _ HS.out.2.symm (by rw [← HOUT.out]; exact HRI.out.2.2.1) HRI.out.2.2.2
  · have HS : Hid (Om.stepsL xs ys = [] ∧ Om.stepsE xs ys = 8) := Lib.hid ⟨by unfold Om.stepsL; rw [if_neg hgood], by unfold Om.stepsE; rw [if_neg hgood]⟩
    have HN : Hid (Om.rightB xs = true → Om.rightB ys = true → Om.permB xs ys = false) := Lib.hid fun h1 _ => decide_eq_false fun h3 => hgood ⟨of_decide_eq_true h1, h3⟩
    clear h hu hby hgood
    generalize hP : PairsErr (toPs (Om.stepsL xs ys)) (Om.stepsE xs ys) w = Post at HE ⊢
    clear hP
    generalize Om.rightB xs = r1 at HR1 HN
    generalize Om.rightB ys = r2 at HR2 HN
    generalize Om.permB xs ys = r3 at HP HN
    cases r1 with
    | false =>
      go_enter Try.func14, Try.ntmps14
      go_wp2_with (go_at_call 18; ((with_reducible refine HR1.out.mono ?_); rintro e w' ⟨rfl, rfl⟩))
      exact HE.out _ _ _ HS.out.2.symm (by rw [HS.out.1]; exact F.OwnPai.nil _ _) (Below.refl _ _)
    | true =>
      cases r2 with
      | false =>
        go_enter Try.func14, Try.ntmps14
        go_wp2_with (first
          | (go_at_call 18; ((with_reducible refine HR1.out.mono ?_); rintro e w' ⟨rfl, rfl⟩))
          | (go_at_call 18; ((with_reducible refine HR2.out.mono ?_); rintro e w' ⟨rfl, rfl⟩)))
        exact HE.out _ _ _ HS.out.2.symm (by rw [HS.out.1]; exact F.OwnPai.nil _ _) (Below.refl _ _)
      | true =>
        obtain rfl := HN.out rfl rfl
        go_enter Try.func14, Try.ntmps14
        go_wp2_with (first
          | (go_at_call 18; ((with_reducible refine HR1.out.mono ?_); rintro e w' ⟨rfl, rfl⟩))
          | (go_at_call 18; ((with_reducible refine HR2.out.mono ?_); rintro e w' ⟨rfl, rfl⟩))
          | (go_at_call 20; refine HP.out.mono ?_; rintro e w' ⟨rfl, rfl⟩))
        exact HE.out _ _ _ HS.out.2.symm (by rw [HS.out.1]; exact F.OwnPai.nil _ _) (Below.refl _ _)
end Go.Proofs.Ytphagkpnfbdncaa.Or
