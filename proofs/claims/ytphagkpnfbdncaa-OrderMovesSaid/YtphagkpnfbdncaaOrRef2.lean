/-
  Lists of ints that are cut; contracts of the document's own answers on orders: With, Without, There, Del, Insert, Move. Not a statement of the seat.
-/
import Derived.Test.YtphagkpnfbdncaaOrRef1
namespace Go.Proofs.Ytphagkpnfbdncaa.Or
open Go.ChangeShapes Go.WideShapes Go.ChangeAt Go.RowKit Base Lst
/-- A list in memory; its slice is no longer than its room, and has none if it is nil. -/
def SL (w : World) (v : Value) (xs : List Int) : Prop := Sl w v xs ∧ Cap0 v
theorem SL.below {w w' : World} {v : Value} {xs : List Int} (h : SL w v xs) (hb : Below w.heap.size w w') : SL w' v xs := ⟨h.1.below hb, h.2⟩
theorem SL.nil {w : World} : SL w (.slice none 0 0) [] := ⟨⟨.nil, _, _, rfl, Nat.le_refl _⟩, fun n c e => by injection e with _ _ e; exact e.symm⟩
theorem own_sl {B : Nat} {w : World} {v : Value} {zs : List Int} (h : OwnI B w v zs) (hl : zs.length ≤ 1000000) : SL w v zs := by
  refine ⟨⟨h.ints (by omega), ?_⟩, h.cap0⟩
  rcases h.form with ⟨rfl, hv⟩ | ⟨g, cap, hv, _, _, hc⟩
  · exact ⟨_, _, hv, Nat.le_refl _⟩
  · exact ⟨_, _, hv, hc⟩
theorem cap0_cut {p : Option Addr} {n c lo hi : Nat} (h : Cap0 (.slice p n c)) : Cap0 (sliced p lo hi c 1) := fun n' c' e => by
  unfold sliced at e
  injection e with e1 e2 e3
  cases p with
  | none =>
    have := h _ _ rfl
    omega
  | some a => split at e1 <;> simp at e1
theorem SL.h {w : World} {v : Value} {xs : List Int} (h : SL w v xs) (k : Nat) (hk : k ≤ xs.length) : ∃ u, (∀ w, (Instr.sliceAt 22 v none (some (.int .i64 (k : Int))) none).run Try.prog w = .ok u w) ∧ SL w u (xs.take k) := by
  obtain ⟨⟨hi, p, c, rfl, hc⟩, h0⟩ := h
  refine ⟨sliced p 0 k c 1, fun w => by rw [run_sliceAt_slice _ _ _ _ _ _ elemInts, run_slice_h w _ _ _ _ elemInts _ _ (by omega) (by omega), elemInts', sizeInt]; rfl, ⟨by simpa using hi.part 0 k (Nat.zero_le _) hk hc, ?_⟩, cap0_cut h0⟩
  exact ⟨_, _, by unfold sliced; rw [List.length_take, Nat.min_eq_left hk]; rfl, by rw [List.length_take]; omega⟩
theorem SL.l {w : World} {v : Value} {xs : List Int} (h : SL w v xs) (lo : Nat) (hk : lo ≤ xs.length) : ∃ u, (∀ w, (Instr.sliceAt 22 v (some (.int .i64 (lo : Int))) none none).run Try.prog w = .ok u w) ∧ SL w u (xs.drop lo) := by
  obtain ⟨⟨hi, p, c, rfl, hc⟩, h0⟩ := h
  refine ⟨sliced p lo xs.length c 1, fun w => by rw [run_sliceAt_slice _ _ _ _ _ _ elemInts, run_slice_l w _ _ _ _ elemInts _ _ (by omega) (by omega), elemInts', sizeInt]; rfl, ⟨?_, ?_⟩, cap0_cut h0⟩
  · have := hi.part lo xs.length hk (Nat.le_refl _) hc
    rw [List.take_of_length_le (by rw [List.length_drop]; omega)] at this
    exact this
  · exact ⟨_, _, by unfold sliced; rw [List.length_drop], by rw [List.length_drop]; omega⟩
section
variable {H : Type} {enc : TypeId × Value → H} {w : World}
set_option maxRecDepth 100000 in
theorem open_sl {r : Reach} {b0 : Nat} {v : Value} {d : DataW H} {p : List MemPlace} (hv : Value.okWide Try.prog w r b0 22 v) (h : DataW.Trod enc Try.prog w 0 (fun _ => true) true 22 v d p) : ∃ zs, SL w v zs ∧ Bd zs := by
  have h2 := h
  obtain ⟨zs, h3, h4, h5⟩ := open_list hv h
  refine ⟨zs, ⟨⟨h4, h3⟩, ?_⟩, h5⟩
  obtain ⟨a0, len, cap, rfl⟩ := okWide_slice Try.underlying22 hv
  obtain ⟨fuel, hf⟩ := h2
  rcases open_ints Try.underlying22 Try.underlying3 cellsInt hf with ⟨hcs, _⟩ | ⟨a, len', cap', zs', hcs, _⟩
  · simp [Value.cells] at hcs
    obtain ⟨rfl, rfl, rfl⟩ := hcs
    exact fun n c e => by injection e with _ _ e; exact e.symm
  · simp [Value.cells] at hcs
    obtain ⟨rfl, rfl, rfl⟩ := hcs
    exact fun n c e => by cases e
end
/-- Lists of the call's own on their way. -/
def Way (w wr : World) (v : Value) (zs : List Int) : Prop := OwnI w.heap.size wr v zs ∧ Below w.heap.size w wr
theorem Way.empty {w : World} : Way w (w.alloc (.cells #[] 3)) (.slice (some ⟨w.heap.size, 0, none⟩) 0 0) [] := ⟨ownI_empty (Nat.le_refl _) (heap_alloc_at _ _ _ rfl), (Below.refl _ _).alloc (Nat.le_refl _) _⟩
theorem Way.nil {w : World} : Way w w (.slice none 0 0) [] := ⟨OwnI.nil _ _, Below.refl _ _⟩
theorem Way.lay {w wr : World} {v : Value} {zs : List Int} (h : Way w wr v zs) (o : Obj) : Way w (wr.alloc o) v zs := ⟨h.1.lay rfl o, h.2.alloc h.2.size o⟩
theorem Way.onto {w wr w' : World} {v v' : Value} {zs zs' : List Int} (h : Way w wr v zs) (ho : OwnI w.heap.size w' v' zs') (hg : wr.grownBy w' v.ownBlock) : Way w w' v' zs' := ⟨ho, h.2.grown hg h.2.size (own_base h.1)⟩
set_option maxHeartbeats 1000000 in
theorem rwith_any {v : Value} {xs : List Int} (x : Int) (w : World) (h : SL w v xs) (hl : xs.length ≤ 100000) : Calls Try.prog 23 #[v, .int .i64 x] w (OwnNew (Om.withL xs x) w) := by
  have HX := Lib.hid h
  have HI : Hid (∀ w1, Below w.heap.size w w1 → Calls Try.prog 34 #[v, .int .i64 x] w1 fun e w' => e = .returned (.bool (decide (x ∈ xs))) ∧ w1 = w') := Lib.hid fun w1 hb => in_any x w1 (h.below hb).1.1
  have HE : Hid (∀ v1 w', Way w w' v1 (Om.withL xs x) → OwnNew (Om.withL xs x) w (.returned v1) w') := Lib.hid fun v1 w' h1 => ⟨v1, rfl, h1.1, h1.2⟩
  by_cases hm : x ∈ xs
  · have HW : Hid (Om.withL xs x = xs) := Lib.hid (by unfold Om.withL; rw [if_pos hm])
    rw [decide_eq_true hm] at HI
    clear h hm
    generalize OwnNew (Om.withL xs x) w = Post at HE ⊢
    go_enter Try.func23, Try.ntmps23
    go_wp2_with (first
      | (at_builtin; refine append_ints rfl (.tmp 6) (.tmp 7) rfl (Way.empty (w := w)).2.size (Way.empty (w := w)).1 rfl (HX.out.below (Way.empty (w := w)).2).1.1 HX.out.2 rfl (by simp; omega) ?_; intro v1 w1 h1 h2 _; have H1 := Lib.hid (Way.onto Way.empty h1 h2); clear h1 h2)
      | (go_at_call 34; refine (HI.out _ H1.out.2).mono ?_; rintro e w' ⟨rfl, rfl⟩))
    exact HE.out _ _ (by rw [HW.out]; exact H1.out)
  · have HW : Hid (Om.withL xs x = xs ++ [x]) := Lib.hid (by unfold Om.withL; rw [if_neg hm])
    rw [decide_eq_false hm] at HI
    clear h hm
    generalize OwnNew (Om.withL xs x) w = Post at HE ⊢
    go_enter Try.func23, Try.ntmps23
    go_wp2_with (first
      | (at_builtin; refine append_ints rfl (.tmp 6) (.tmp 7) rfl (Way.empty (w := w)).2.size (Way.empty (w := w)).1 rfl (HX.out.below (Way.empty (w := w)).2).1.1 HX.out.2 rfl (by simp; omega) ?_; intro v1 w1 h1 h2 _; have H1 := Lib.hid (Way.onto Way.empty h1 h2); clear h1 h2)
      | (go_at_call 34; refine (HI.out _ H1.out.2).mono ?_; rintro e w' ⟨rfl, rfl⟩)
      | (at_builtin; refine append_int rfl (.tmp 13) (.tmp 15) rfl H1.out.2 H1.out.1 rfl rfl (by simp; omega) ?_; intro v2 w2 h1 h2; have H3 := Lib.hid h1; have H4 := Lib.hid h2; clear h1 h2))
    exact HE.out _ _ (by rw [HW.out]; exact ⟨H3.out, H4.out⟩)
set_option maxHeartbeats 1000000 in
theorem rwithout_any {base : Nat} {v : Value} {xs : List Int} (x : Int) (w : World) (h : Ints base w v xs) (hl : xs.length ≤ 100000) : Calls Try.prog 25 #[v, .int .i64 x] w (OwnNew (Om.without xs x) w) := by
  obtain ⟨p, c, rfl, _, hc⟩ := h.open_
  have HC := Lib.hid hc
  have HE : Hid (∀ v1 w', Way w w' v1 (Om.without xs x) → OwnNew (Om.without xs x) w (.returned v1) w') := Lib.hid fun v1 w' h1 => ⟨v1, rfl, h1.1, h1.2⟩
  clear h hc
  generalize OwnNew (Om.without xs x) w = Post at HE ⊢
  go_enter Try.func25, Try.ntmps25
  go_wp2_with fail
  go_loopw [5, 10] (fun s5 s10 wr => ∃ k : Nat, s10 = .int .i64 k ∧ k ≤ xs.length ∧ Hid (Way w wr s5 (Om.without (xs.take k) x))) (fun _ s10 _ => xs.length - (intOf s10).toNat)
  case atStart => exact ⟨0, rfl, Nat.zero_le _, Lib.hid Way.nil⟩
  case round =>
    obtain ⟨k, rfl, hk, HW⟩ := hrel
    by_cases hlt : k < xs.length
    · obtain ⟨g', o', rfl, _, hg', hcell0⟩ := HC.out k hlt
      have hcell := (HW.out.2.cell (p := ⟨g', o' + k, none⟩) hg').trans hcell0
      have HS : Hid (Om.without (xs.take (k + 1)) x = Om.without (xs.take k) x ++ if xs.getD k 0 = x then [] else [xs.getD k 0]) := Lib.hid (by rw [Om.take_snoc xs k hlt, Om.without_snoc])
      have hlw : (Om.without (xs.take k) x).length ≤ 1000000 := Nat.le_trans (List.length_filter_le _ _) (by rw [List.length_take]; omega)
      clear hcell0
      generalize xs.getD k 0 = y at hcell HS
      by_cases hy : y = x
      · have hd : (y != x) = false := by rw [bne_eq_false_iff_eq]; exact hy
        have HW2 : Hid (Way w wr u5 (Om.without (xs.take (k + 1)) x)) := Lib.hid (by rw [HS.out, if_pos hy, List.append_nil]; exact HW.out)
        clear hy HS HW
        go_wp2_with fail
        go_roundw
        case rel => exact ⟨k + 1, by go_num, by omega, HW2⟩
        case measure => simp [intOf]; omega
      · have hd : (y != x) = true := by rw [bne_iff_ne]; exact hy
        have HS2 : Hid (Om.without (xs.take (k + 1)) x = Om.without (xs.take k) x ++ [y]) := Lib.hid (by rw [HS.out, if_neg hy])
        clear hy HS
        go_wp2_with (at_builtin; refine append_int rfl (.tmp 17) (.tmp 19) rfl HW.out.2 HW.out.1 rfl rfl hlw ?_; intro v2 w2 h1 h2; have H3 : Hid (Way w w2 v2 (Om.without (xs.take (k + 1)) x)) := Lib.hid ⟨by rw [HS2.out]; exact h1, h2⟩; clear h1 h2)
        go_roundw
        case rel => exact ⟨k + 1, by go_num, by omega, H3⟩
        case measure => simp [intOf]; omega
    · have HW2 : Hid (Way w wr u5 (Om.without xs x)) := Lib.hid (by
        have := HW.out
        rwa [List.take_of_length_le (by omega)] at this)
      clear HW
      go_wp2
      exact HE.out _ _ HW2.out
theorem rthere_any {v : Value} {xs : List Int} (i : Int) (w : World) (h : SL w v xs) : Calls Try.prog 30 #[v, .int .i64 i] w fun e w' => e = .returned (.bool (decide (0 ≤ i ∧ i < xs.length))) ∧ w = w' := by
  obtain ⟨⟨_, p, c, rfl, _⟩, _⟩ := h
  by_cases h1 : 0 ≤ i
  · by_cases h2 : i < (xs.length : Int)
    · rw [decide_eq_true ⟨h1, h2⟩]
      go_enter Try.func30, Try.ntmps30
      go_wp2
      go_ret
      exact ⟨ret_bool (by simp), rfl⟩
    · rw [decide_eq_false (fun h => h2 h.2)]
      go_enter Try.func30, Try.ntmps30
      go_wp2
      go_ret
      exact ⟨ret_bool (by simp), rfl⟩
  · rw [decide_eq_false (fun h => h1 h.1)]
    go_enter Try.func30, Try.ntmps30
    go_wp2
    go_ret
    exact ⟨rfl, rfl⟩
set_option maxHeartbeats 1000000 in
theorem rdel_any {v : Value} {xs : List Int} (i : Nat) (w : World) (h : SL w v xs) (hi : i < xs.length) (hl : xs.length ≤ 100000) : Calls Try.prog 32 #[v, .int .i64 i] w (OwnNew (xs.take i ++ xs.drop (i + 1)) w) := by
  obtain ⟨u1, hr1, h1⟩ := h.h i (by omega)
  obtain ⟨u2, hr2, h2⟩ := h.l (i + 1) (by omega)
  have e1 : ((i + 1 : Nat) : Int) = (i : Int) + 1 := by omega
  rw [e1] at hr2
  have hl1 : (xs.take i).length ≤ 100000 := by rw [List.length_take]; omega
  have hl2 : (xs.drop (i + 1)).length ≤ 100000 := by rw [List.length_drop]; omega
  have HU1 := Lib.hid h1
  have HU2 := Lib.hid h2
  have HE : Hid (∀ v1 w', Way w w' v1 (xs.take i ++ xs.drop (i + 1)) → OwnNew (xs.take i ++ xs.drop (i + 1)) w (.returned v1) w') := Lib.hid fun v1 w' h1 => ⟨v1, rfl, h1.1, h1.2⟩
  obtain ⟨⟨_, p, c, rfl, hc⟩, _⟩ := h
  clear h1 h2 e1
  generalize xs.take i = a at HU1 HE hl1 ⊢
  generalize xs.drop (i + 1) = b at HU2 HE hl2 ⊢
  generalize OwnNew (a ++ b) w = Post at HE ⊢
  go_enter Try.func32, Try.ntmps32
  go_wp2_with (first
    | (at_builtin; refine append_ints rfl (.tmp 6) (.tmp 9) rfl (Way.empty (w := w)).2.size (Way.empty (w := w)).1 rfl (HU1.out.below (Way.empty (w := w)).2).1.1 HU1.out.2 rfl (by simp; omega) ?_; intro v1 w1 h1 h2 _; have H1 : Hid (Way w w1 v1 a) := Lib.hid (Way.onto Way.empty h1 h2); clear h1 h2)
    | (at_builtin; refine append_ints rfl (.tmp 11) (.tmp 15) rfl H1.out.2.size H1.out.1 rfl (HU2.out.below H1.out.2).1.1 HU2.out.2 rfl (by omega) ?_; intro v2 w2 h1 h2 _; have H2 := Lib.hid (Way.onto H1.out h1 h2); clear h1 h2))
  exact HE.out _ _ H2.out
set_option maxHeartbeats 1000000 in
theorem rinsert_any {v : Value} {xs : List Int} (i : Nat) (x : Int) (w : World) (h : SL w v xs) (hi : i ≤ xs.length) (hl : xs.length ≤ 100000) : Calls Try.prog 31 #[v, .int .i64 i, .int .i64 x] w fun e w' => ∃ v', e = .returned (.tuple #[v', .bool true]) ∧ Way w w' v' (xs.take i ++ x :: xs.drop i) := by
  obtain ⟨u1, hr1, h1⟩ := h.h i hi
  obtain ⟨u2, hr2, h2⟩ := h.l i hi
  have hl1 : (xs.take i).length ≤ 100000 := by rw [List.length_take]; omega
  have hl2 : (xs.drop i).length ≤ 100000 := by rw [List.length_drop]; omega
  have HU1 := Lib.hid h1
  have HU2 := Lib.hid h2
  have HE : Hid (∀ v1 w', Way w w' v1 (xs.take i ++ [x] ++ xs.drop i) → (fun e w' => ∃ v', e = Ending.returned (.tuple #[v', .bool true]) ∧ Way w w' v' (xs.take i ++ x :: xs.drop i)) (.returned (.tuple #[v1, .bool true])) w') := Lib.hid fun v1 w' h1 => ⟨v1, rfl, by rw [List.append_assoc] at h1; exact h1⟩
  obtain ⟨⟨_, p, c, rfl, hc⟩, _⟩ := h
  have hgt : decide (xs.length < i) = false := by rw [decide_eq_false]; omega
  have hgt' : decide ((xs.length : Int) < (i : Int)) = false := by rw [decide_eq_false]; omega
  clear h1 h2
  generalize (fun e w' => ∃ v', e = Ending.returned (.tuple #[v', .bool true]) ∧ Way w w' v' (xs.take i ++ x :: xs.drop i)) = Post at HE ⊢
  generalize xs.take i = a at HU1 HE hl1
  generalize xs.drop i = b at HU2 HE hl2
  go_enter Try.func31, Try.ntmps31
  go_wp2_with (first
    | (at_builtin; refine append_ints rfl (.tmp 18) (.tmp 21) rfl (Way.empty (w := w)).2.size (Way.empty (w := w)).1 rfl (HU1.out.below (Way.empty (w := w)).2).1.1 HU1.out.2 rfl (by simp; omega) ?_; intro v1 w1 h1 h2 _; have H1 : Hid (Way w w1 v1 a) := Lib.hid (Way.onto Way.empty h1 h2); clear h1 h2)
    | (at_builtin; refine append_int rfl (.tmp 23) (.tmp 25) rfl H1.out.2 H1.out.1 rfl rfl (by omega) ?_; intro v2 w2 h1 h2; have H2 : Hid (Way w w2 v2 (a ++ [x])) := Lib.hid ⟨h1, h2⟩; clear h1 h2)
    | (at_builtin; refine append_ints rfl (.tmp 27) (.tmp 30) rfl H2.out.2.size H2.out.1 rfl (HU2.out.below H2.out.2).1.1 HU2.out.2 rfl (by simp; omega) ?_; intro v3 w3 h1 h2 _; have H3 := Lib.hid (Way.onto H2.out h1 h2); clear h1 h2))
  exact HE.out _ _ H3.out
set_option maxHeartbeats 1000000 in
theorem rmove_any {v : Value} {xs : List Int} (x place : Int) (w : World) (h : SL w v xs) (hl : xs.length ≤ 100000) : Calls Try.prog 12 #[v, .int .i64 x, .int .i64 place] w (ListErr (Om.moveL xs x place) (Om.moveE xs x place) w) := by
  have HI := Lib.hid (rindex_any x w h.1.1)
  have HT := Lib.hid (rthere_any place w h)
  have HE : Hid (∀ v1 e w', e = Om.moveE xs x place → Way w w' v1 (Om.moveL xs x place) → ListErr (Om.moveL xs x place) (Om.moveE xs x place) w (.returned (.tuple #[v1, .int .i64 e])) w') := Lib.hid fun v1 e w' h1 h2 => ⟨v1, by rw [h1], h2.1, h2.2⟩
  by_cases hm : x ∈ xs
  · have hb0 : 0 ≤ Om.idx xs x := by rw [Om.idx_mem hm]; omega
    by_cases hr : place < 0 ∨ (xs.length : Int) ≤ place
    · have HR := Lib.hid (Om.move_range hm hr)
      rw [decide_eq_false (by omega)] at HT
      generalize Om.idx xs x = i at HI hb0
      generalize hP : ListErr (Om.moveL xs x place) (Om.moveE xs x place) w = Post at HE ⊢
      clear h hm hP hr
      go_enter Try.func12, Try.ntmps12
      go_wp2_with (first
        | (go_at_call 28; refine HI.out.mono ?_; rintro e w' ⟨rfl, rfl⟩)
        | (go_at_call 30; refine HT.out.mono ?_; rintro e w' ⟨rfl, rfl⟩))
      exact HE.out _ _ _ HR.out.2.symm (by rw [HR.out.1]; exact Way.nil)
    · obtain ⟨k, rfl⟩ : ∃ k : Nat, place = (k : Int) := ⟨place.toNat, by omega⟩
      have hk : k < xs.length := by omega
      rw [decide_eq_true (by omega)] at HT
      have hi := List.idxOf_lt_length_of_mem hm
      have HR := Lib.hid (Om.move_ok hm k hk)
      have HD := Lib.hid (rdel_any (xs.idxOf x) w h hi hl)
      have hdl : (xs.take (xs.idxOf x) ++ xs.drop (xs.idxOf x + 1)).length = xs.length - 1 := by rw [List.length_append, List.length_take, List.length_drop]; omega
      have HN : Hid (∀ w1 v1, Way w w1 v1 (xs.take (xs.idxOf x) ++ xs.drop (xs.idxOf x + 1)) → Calls Try.prog 31 #[v1, .int .i64 k, .int .i64 x] w1 fun e w' => ∃ v', e = .returned (.tuple #[v', .bool true]) ∧ Way w w' v' (Om.moveL xs x (k : Int))) := Lib.hid fun w1 v1 h1 => by
        refine (rinsert_any k x w1 (own_sl h1.1 (by omega)) (by omega) (by omega)).mono fun e w' ⟨v', e1, e2⟩ => ⟨v', e1, ?_⟩
        rw [HR.out.1]
        refine ⟨?_, h1.2.trans (e2.2.mono h1.2.size)⟩
        refine ⟨e2.1.1, ?_⟩
        rcases e2.1.2 with hn | ⟨g, cap, cur, hv, hB, rest⟩
        · exact .inl hn
        · exact .inr ⟨g, cap, cur, hv, Nat.le_trans h1.2.size hB, rest⟩
      rw [Om.idx_mem hm] at HI
      have HRE := Lib.hid HR.out.2
      generalize xs.idxOf x = i at HI HD HN
      generalize hP : ListErr (Om.moveL xs x (k : Int)) (Om.moveE xs x (k : Int)) w = Post at HE ⊢
      clear h hr HR hb0 hm hP hdl hi hk
      go_enter Try.func12, Try.ntmps12
      go_wp2_with (first
        | (go_at_call 28; refine HI.out.mono ?_; rintro e w' ⟨rfl, rfl⟩)
        | (go_at_call 30; refine HT.out.mono ?_; rintro e w' ⟨rfl, rfl⟩)
        | (go_at_call 32; refine HD.out.mono ?_; rintro e w1 ⟨v1, rfl, h1, h2⟩; have H1 : Hid (Way w w1 v1 _) := Lib.hid ⟨h1, h2⟩; clear h1 h2)
        | (go_at_call 31; refine (HN.out _ _ H1.out).mono ?_; rintro e w2 ⟨v2, rfl, h2⟩; have H2 := Lib.hid h2; clear h2))
      exact HE.out _ _ _ HRE.out.symm H2.out
  · have HR := Lib.hid (Om.move_no (place := place) hm)
    rw [Om.idx_no hm] at HI
    generalize hP : ListErr (Om.moveL xs x place) (Om.moveE xs x place) w = Post at HE ⊢
    clear h hm hP
    go_enter Try.func12, Try.ntmps12
    go_wp2_with (go_at_call 28; refine HI.out.mono ?_; rintro e w' ⟨rfl, rfl⟩)
    exact HE.out _ _ _ HR.out.2.symm (by rw [HR.out.1]; exact Way.nil)
end Go.Proofs.Ytphagkpnfbdncaa.Or
