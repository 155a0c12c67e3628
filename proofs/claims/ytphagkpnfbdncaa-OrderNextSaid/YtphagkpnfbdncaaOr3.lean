/-
  Contracts of slices.Equal, Clone and DeleteFunc at ints, and of order's Same, With, Without. Not a statement of the seat.
-/
import Derived.Test.YtphagkpnfbdncaaOr2
import Derived.Test.YtphagkpnfbdncaaFs1
namespace Go.Proofs.Ytphagkpnfbdncaa.Or
open Go.ChangeShapes Go.WideShapes Go.ChangeAt Go.RowKit Base Lst Go.Sort
set_option maxHeartbeats 1000000 in
theorem equal_cells (g o c g' o' c' : Nat) (xs ys : List Int) (w : World) (hx : ∀ k, k < xs.length → w.cell? ⟨g, o + k, none⟩ = some (.int .i64 (xs.getD k 0))) (hy : ∀ k, k < ys.length → w.cell? ⟨g', o' + k, none⟩ = some (.int .i64 (ys.getD k 0))) (hl : xs.length ≤ 9223372036854775807) (_ : ys.length ≤ 9223372036854775807) :
    Calls Try.prog 36 #[.slice (some ⟨g, o, none⟩) xs.length c, .slice (some ⟨g', o', none⟩) ys.length c'] w fun e w' => e = .returned (.bool (decide (xs = ys))) ∧ ∃ q, w' = w.drewN q := by
  have HX := Lib.hid hx
  have HY := Lib.hid hy
  clear hx hy
  by_cases hn : xs.length = ys.length
  · have HEQ : Hid ((∀ j, j < xs.length → xs.getD j 0 = ys.getD j 0) → decide (xs = ys) = true) := Lib.hid fun h => decide_eq_true (lists_ext hn h)
    have HNE : Hid (∀ j, xs.getD j 0 ≠ ys.getD j 0 → decide (xs = ys) = false) := Lib.hid fun j h => decide_eq_false (fun e => h (by rw [e]))
    have hb : ((xs.length : Int) != (ys.length : Int)) = false := by rw [bne_eq_false_iff_eq]; omega
    have HN := Lib.hid hn
    clear hn
    generalize decide (xs = ys) = r at HEQ HNE ⊢
    go_enter Try.func36, Try.ntmps36
    go_wp2
    go_loopg [13] xs.length (fun gg s13 wr => ∃ k q : Nat, k ≤ xs.length ∧ xs.length - k ≤ gg ∧ s13 = .int .i64 k ∧ wr = w.drewN q ∧ Hid (∀ j, j < k → xs.getD j 0 = ys.getD j 0))
    case atStart => exact ⟨0, 0, Nat.zero_le _, by omega, rfl, rfl, Lib.hid (fun j hj => absurd hj (by omega))⟩
    case round =>
      obtain ⟨k, q, hk, hg, rfl, rfl, HK⟩ := hrel
      by_cases hlt : k < xs.length
      · have h1 := HX.out k hlt
        have h2 := HY.out k (by rw [← HN.out]; exact hlt)
        have hlt' : k < ys.length := by rw [← HN.out]; exact hlt
        have HKK : Hid (xs.getD k 0 = ys.getD k 0 → ∀ j, j < k + 1 → xs.getD j 0 = ys.getD j 0) := Lib.hid fun h j hj => by
          by_cases e : j = k
          · rw [e]; exact h
          · exact HK.out j (by omega)
        have HNK := Lib.hid (HNE.out k)
        generalize xs.getD k 0 = x at h1 HKK HNK
        generalize ys.getD k 0 = y at h2 HKK HNK
        by_cases hxy : x = y
        · have hd : (x != y) = false := by rw [bne_eq_false_iff_eq]; exact hxy
          have HK2 := Lib.hid (HKK.out hxy)
          clear hxy HKK HNK HK
          go_wp2_with fail
          go_quiet (fail)
          go_wp2
          go_roundg (xs.length - (k + 1))
          case measure => omega
          case rel => exact ⟨k + 1, q + nq, by omega, Nat.le_refl _, by go_num, rfl, HK2⟩
        · have hd : (x != y) = true := by rw [bne_iff_ne]; exact hxy
          have HF := Lib.hid (HNK.out hxy)
          clear hxy HKK HNK HK
          go_wp2_with fail
          go_quiet (fail)
          go_wp2
          go_ret
          exact ⟨ret_bool HF.out.symm, q + nq, World.drewN_drewN _ _ _⟩
      · have HT := Lib.hid (HEQ.out fun j hj => HK.out j (by omega))
        clear HK HEQ HNE
        go_wp2
        go_ret
        exact ⟨ret_bool HT.out.symm, _, rfl⟩
  · have HF : Hid (decide (xs = ys) = false) := Lib.hid (decide_eq_false (fun e => hn (by rw [e])))
    have hb : ((xs.length : Int) != (ys.length : Int)) = true := by rw [bne_iff_ne]; omega
    clear hn
    generalize decide (xs = ys) = r at HF ⊢
    go_enter Try.func36, Try.ntmps36
    go_wp2
    go_ret
    exact ⟨ret_bool HF.out.symm, 0, rfl⟩
theorem equal_ne (p p' : Option Addr) (m m' c c' : Nat) (w : World) (hne : m ≠ m') :
    Calls Try.prog 36 #[.slice p m c, .slice p' m' c'] w fun e w' => e = .returned (.bool false) ∧ w' = w := by
  have hb : ((m : Int) != (m' : Int)) = true := by rw [bne_iff_ne]; omega
  clear hne
  go_enter Try.func36, Try.ntmps36
  go_wp2
  go_ret
  exact ⟨rfl, rfl⟩
theorem equal_zero (p p' : Option Addr) (c c' : Nat) (w : World) :
    Calls Try.prog 36 #[.slice p 0 c, .slice p' 0 c'] w fun e w' => e = .returned (.bool true) ∧ w' = w := by
  go_enter Try.func36, Try.ntmps36
  go_wp2_with fail
  refine wp_loop_rounds 1 ?_
  rw [rounds_succ]
  go_wp2
  go_ret
  exact ⟨rfl, rfl⟩
theorem equal_any {b1 b2 : Nat} {v u : Value} {xs ys : List Int} {w : World} (hx : Ints b1 w v xs) (hy : Ints b2 w u ys) :
    Calls Try.prog 36 #[v, u] w fun e w' => e = .returned (.bool (decide (xs = ys))) ∧ ∃ q, w' = w.drewN q := by
  rcases hx with ⟨⟨p, c, rfl⟩, rfl⟩ | ⟨g, o, c, rfl, _, _, h3, h4⟩ <;> rcases hy with ⟨⟨p', c', rfl⟩, rfl⟩ | ⟨g', o', c', rfl, _, _, h3', h4'⟩
  · exact (equal_zero _ _ _ _ w).mono fun e w' h => ⟨by rw [h.1]; rfl, 0, h.2⟩
  · by_cases hz : ys.length = 0
    · have : ys = [] := List.length_eq_zero_iff.1 hz
      subst this
      exact (equal_zero _ _ _ _ w).mono fun e w' h => ⟨by rw [h.1]; rfl, 0, h.2⟩
    · refine (equal_ne _ _ _ _ _ _ w (fun e => hz e.symm)).mono fun e w' h => ⟨?_, 0, h.2⟩
      rw [h.1, decide_eq_false (fun e => hz (by rw [← e]; rfl))]
  · by_cases hz : xs.length = 0
    · have : xs = [] := List.length_eq_zero_iff.1 hz
      subst this
      exact (equal_zero _ _ _ _ w).mono fun e w' h => ⟨by rw [h.1]; rfl, 0, h.2⟩
    · refine (equal_ne _ _ _ _ _ _ w hz).mono fun e w' h => ⟨?_, 0, h.2⟩
      rw [h.1, decide_eq_false (fun e => hz (by rw [e]; rfl))]
  · exact equal_cells g o c g' o' c' xs ys w h4 h4' h3 h3'
theorem same_any {b1 b2 : Nat} {v u : Value} {xs ys : List Int} {w : World} (hx : Ints b1 w v xs) (hy : Ints b2 w u ys) :
    Calls Try.prog 21 #[v, u] w fun e w' => e = .returned (.bool (decide (xs = ys))) ∧ ∃ q, w' = w.drewN q := by
  have HE := Lib.hid (equal_any hx hy)
  clear hx hy
  generalize decide (xs = ys) = r at HE ⊢
  go_enter Try.func21, Try.ntmps21
  go_wp2_with (go_at_call 36; refine HE.out.mono ?_; rintro e w' ⟨rfl, q, rfl⟩)
  go_ret
  exact ⟨rfl, _, rfl⟩
def OwnNew (xs : List Int) (w : World) (e : Ending) (w' : World) : Prop := ∃ v, e = .returned v ∧ OwnI w.heap.size w' v xs ∧ Below w.heap.size w w'
/-- A list that came in, or is the call's own: nil has no room. -/
def Cap0 (v : Value) : Prop := ∀ n c, v = .slice none n c → c = 0
theorem clone_any {base : Nat} {v : Value} {xs : List Int} (w : World) (h : Ints base w v xs) (hl : xs.length ≤ 1000000) : Calls Try.prog 29 #[v] w (OwnNew xs w) := by
  rcases h with ⟨⟨p, c, rfl⟩, rfl⟩ | ⟨g, o, c, rfl, _, _, _, hcell⟩
  · cases p with
    | none => exact (Try.slices_Clone_int_nil 0 c w).mono fun e w' ⟨h1, h2⟩ => ⟨_, h1, OwnI.nil _ _, by rw [h2]; exact Below.refl _ _⟩
    | some a => exact (Try.slices_Clone_int_zero a c w).mono fun e w' ⟨v, h1, h2, _, h4⟩ => ⟨v, h1, h2, h4⟩
  · refine (Try.slices_Clone_int g o xs.length c xs w (Nat.le_refl _) (by omega) hcell).mono fun e w' ⟨v, h1, h2, _, h4⟩ => ⟨v, h1, ?_, h4⟩
    rw [List.take_length] at h2
    exact h2
set_option maxHeartbeats 1000000 in
theorem gives_without (x y : Int) (q : Nat) (W : World) (hc : W.cell? ⟨q, 0, none⟩ = some (.int .i64 x)) :
    FnGives Try.prog 39 #[.pointer (some ⟨q, 0, none⟩)] #[.int .i64 y] (.bool (y == x)) W := by
  show Calls Try.prog 39 #[.int .i64 y, .pointer (some ⟨q, 0, none⟩)] W _
  go_enter Try.func39, Try.ntmps39
  go_wp2
  go_ret
  exact ⟨rfl, 0, rfl⟩
theorem own_put {B : Nat} {w : World} {g n cap q : Nat} {zs ys tl : List Int} (h : OwnI B w (.slice (some ⟨g, 0, none⟩) n cap) zs) (hl : ys.length + tl.length = zs.length) : OwnI B (putRow (Value.int .i64) (Sort.ahead w q) g 0 (ys ++ tl).toArray) (.slice (some ⟨g, 0, none⟩) ys.length cap) ys := by
  rcases h.2 with ⟨hv, _⟩ | ⟨g', cap', cur, hv, hB, hg, hc, hmx, hsz, htk⟩
  · cases hv
  · injection hv with e1 e2 e3
    injection e1 with e1
    injection e1 with e1
    subst e1 e2 e3
    refine ⟨by simp, .inr ⟨g, cap, _, rfl, hB, (heap_putRow _ hg).1, by omega, hmx, by simpa [putCells] using hsz, ?_⟩⟩
    apply List.ext_getElem?
    intro k
    rw [List.getElem?_take]
    split
    · rename_i hk
      have hk' : k < ys.length := by simpa using hk
      have hkc : k < cur.size := by omega
      rw [Array.getElem?_toList, putCells, Array.getElem?_mapIdx, Array.getElem?_eq_getElem hkc, Option.map_some, if_pos ⟨Nat.zero_le _, by simp; omega⟩, List.getElem?_map, List.getElem?_eq_getElem hk']
      simp [hk', List.getElem?_append]
    · rename_i hk
      rw [List.getElem?_eq_none (by simp at hk ⊢; omega)]
theorem putRow_grown {B : Nat} {w : World} {g n cap q : Nat} {zs : List Int} (d : Array Int) (h : OwnI B w (.slice (some ⟨g, 0, none⟩) n cap) zs) : w.grownBy (putRow (Value.int .i64) (Sort.ahead w q) g 0 d) (some g) := by
  rcases h.2 with ⟨hv, _⟩ | ⟨g', cap', cur, hv, hB, hg, _⟩
  · cases hv
  · injection hv with e1 e2 e3
    injection e1 with e1
    injection e1 with e1
    subst e1
    exact ⟨rfl, rfl, rfl, by rw [(heap_putRow d hg).2.2]; exact Nat.le_refl _, fun k _ hk => (heap_putRow d hg).2.1 k (fun e => hk (by rw [e]))⟩
set_option maxHeartbeats 1000000 in
theorem delete_empty (p : Option Addr) (c : Nat) (fv : Value) (w : World) : Calls Try.prog 38 #[.slice p 0 c, fv] w fun e w' => e = .returned (.slice p 0 c) ∧ w' = w := by
  have HI := Lib.hid (Try.slices_IndexFunc_empty (α := Int) p c fv w)
  go_enter Try.func38, Try.ntmps38
  go_wp2_with (go_at_call 40; refine HI.out.mono ?_; rintro e w' ⟨rfl, rfl⟩)
  go_ret
  exact ⟨rfl, rfl⟩
/-- DeleteFunc of those that are x, in a list of the call's own. -/
theorem delete_own {B : Nat} {w : World} {v : Value} {zs : List Int} {q : Nat} {x : Int} (h : OwnI B w v zs) (hl : zs.length ≤ 1000000) (hq : q < w.heap.size) (hqB : q < B) (hc : w.cell? ⟨q, 0, none⟩ = some (.int .i64 x)) :
    Calls Try.prog 38 #[v, .func (.func 39) #[] #[.pointer (some ⟨q, 0, none⟩)]] w fun e w' => ∃ v', e = .returned v' ∧ OwnI B w' v' (Om.without zs x) ∧ w.grownBy w' v.ownBlock := by
  rcases h.form with ⟨rfl, rfl⟩ | ⟨g, cap, rfl, hB, hg, hcap⟩
  · exact (delete_empty none 0 _ w).mono fun e w' ⟨h1, h2⟩ => ⟨_, h1, by rw [h2]; exact OwnI.nil _ _, by rw [h2]; exact World.grownBy.refl _ _⟩
  · have eg : ∀ args w, (callFunc 39 args).run Try.prog w = .ok (.enter 39 args) w := enters_of Try.func39 (by kernel_rfl) rfl
    have hf : (zs.toArray.toList.filter fun y => !(y == x)) = Om.without zs x := by simp [Om.without, bne]
    have hlf : (Om.without zs x).length ≤ zs.length := List.length_filter_le _ _
    refine (Try.slices_DeleteFunc (Value.int .i64) (fun _ => rfl) (fun y => y == x) 39 #[.pointer (some ⟨q, 0, none⟩)] eg 0 (fun w => by kernel_rfl) g 0 cap zs.toArray w
      (fun W y hb => gives_without x y q W ((hb.cell (p := ⟨q, 0, none⟩) hq).trans hc))
      (fun n os dk y _ => gives_without x y q _ (by
        unfold sortWorld
        rw [cell?_grow _ _ _ (by show q < (putRow _ _ _ _ _).heap.size; rw [size_putRow]; exact hq), cell?_putRow_other _ _ g 0 _ _ (Or.inl (show q ≠ g by omega))]
        exact hc))
      h.holds (by simp; omega) (by simpa using hcap)).mono fun e w' ⟨h1, n, h2⟩ => ?_
    rw [hf] at h1 h2
    refine ⟨_, h1, ?_, ?_⟩
    · rw [h2]
      exact own_put h (by simp; omega)
    · rw [h2]
      exact putRow_grown _ h
set_option maxHeartbeats 1000000 in
theorem without_any {base : Nat} {v : Value} {xs : List Int} (x : Int) (w : World) (h : Ints base w v xs) (hl : xs.length ≤ 1000000) : Calls Try.prog 24 #[v, .int .i64 x] w (OwnNew (Om.without xs x) w) := by
  have HC := Lib.hid (clone_any (w.alloc (.cells #[.int .i64 x] 3)) (h.below ((Below.refl _ _).alloc (Nat.le_refl _) _)) hl)
  have HD : Hid (∀ (w1 : World) v1, OwnI (w.alloc (.cells #[.int .i64 x] 3)).heap.size w1 v1 xs → Below (w.alloc (.cells #[.int .i64 x] 3)).heap.size (w.alloc (.cells #[.int .i64 x] 3)) w1 →
      Calls Try.prog 38 #[v1, .func (.func 39) #[] #[.pointer (some ⟨w.heap.size, 0, none⟩)]] w1 fun e w' => ∃ v', e = .returned v' ∧ OwnNew (Om.without xs x) w (.returned v') w') := Lib.hid fun w1 v1 h1 h2 => by
    have hz := h2.size
    simp only [World.size_alloc] at hz h1
    refine (delete_own h1 hl (q := w.heap.size) (x := x) (by omega) (by omega) ((h2.cell (p := ⟨w.heap.size, 0, none⟩) (by simp)).trans (by simp))).mono fun e w' ⟨v', e1, e2, e3⟩ => ⟨v', e1, v', rfl, ?_, ?_⟩
    · refine ⟨e2.1, ?_⟩
      rcases e2.2 with hn | ⟨g, cap, cur, hv, hB, rest⟩
      · exact .inl hn
      · exact .inr ⟨g, cap, cur, hv, by omega, rest⟩
    · refine (((Below.refl _ _).alloc (Nat.le_refl _) _).trans (h2.mono (by simp))).grown e3 (by omega) (fun k hk => ?_)
      have := own_base h1 k hk
      omega
  clear h
  generalize OwnNew (Om.without xs x) w = Post at HD ⊢
  go_enter Try.func24, Try.ntmps24
  go_wp2_with (first
    | (go_at_call 29; refine HC.out.mono ?_; rintro e w' ⟨v1, rfl, h1, h2⟩; have H1 := Lib.hid h1; have H2 := Lib.hid h2; clear h1 h2)
    | (go_at_call 38; refine (HD.out _ _ H1.out H2.out).mono ?_; rintro e w' ⟨v2, rfl, hp⟩; have HP := Lib.hid hp; clear hp))
  exact HP.out
set_option maxHeartbeats 1000000 in
theorem with_any {base : Nat} {v : Value} {xs : List Int} (x : Int) (w : World) (h : Ints base w v xs) (hl : xs.length ≤ 100000) : Calls Try.prog 22 #[v, .int .i64 x] w (OwnNew (Om.withL xs x) w) := by
  have HC := Lib.hid (clone_any w h (by omega))
  have HI : Hid (∀ w1, Below w.heap.size w w1 → Calls Try.prog 37 #[v, .int .i64 x] w1 fun e w' => e = .returned (.bool (decide (x ∈ xs))) ∧ w1 = w') := Lib.hid fun w1 hb => contains_any x w1 (h.below hb)
  have HE : Hid (∀ v1 w', OwnI w.heap.size w' v1 (Om.withL xs x) → Below w.heap.size w w' → OwnNew (Om.withL xs x) w (.returned v1) w') := Lib.hid fun v1 w' h1 h2 => ⟨v1, rfl, h1, h2⟩
  by_cases hm : x ∈ xs
  · have HW : Hid (Om.withL xs x = xs) := Lib.hid (by unfold Om.withL; rw [if_pos hm])
    rw [decide_eq_true hm] at HI
    clear h hm
    generalize OwnNew (Om.withL xs x) w = Post at HE ⊢
    go_enter Try.func22, Try.ntmps22
    go_wp2_with (first
      | (go_at_call 29; refine HC.out.mono ?_; rintro e w' ⟨v1, rfl, h1, h2⟩; have H1 := Lib.hid h1; have H2 := Lib.hid h2; clear h1 h2)
      | (go_at_call 37; refine (HI.out _ H2.out).mono ?_; rintro e w' ⟨rfl, rfl⟩))
    exact HE.out _ _ (by rw [HW.out]; exact H1.out) H2.out
  · have HW : Hid (Om.withL xs x = xs ++ [x]) := Lib.hid (by unfold Om.withL; rw [if_neg hm])
    rw [decide_eq_false hm] at HI
    clear h hm
    generalize OwnNew (Om.withL xs x) w = Post at HE ⊢
    go_enter Try.func22, Try.ntmps22
    go_wp2_with (first
      | (go_at_call 29; refine HC.out.mono ?_; rintro e w' ⟨v1, rfl, h1, h2⟩; have H1 := Lib.hid h1; have H2 := Lib.hid h2; clear h1 h2)
      | (go_at_call 37; refine (HI.out _ H2.out).mono ?_; rintro e w' ⟨rfl, rfl⟩)
      | (at_builtin; refine append_int rfl (.tmp 12) (.tmp 14) rfl H2.out H1.out rfl rfl (by omega) ?_; intro v2 w2 h1 h2; have H3 := Lib.hid h1; have H4 := Lib.hid h2; clear h1 h2))
    exact HE.out _ _ (by rw [HW.out]; exact H3.out) H4.out
end Go.Proofs.Ytphagkpnfbdncaa.Or
