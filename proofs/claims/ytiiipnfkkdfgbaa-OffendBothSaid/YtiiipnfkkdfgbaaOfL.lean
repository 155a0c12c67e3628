/-
  Contracts of offend's ranks and Less, of slices' Compare, of the document's Less. Not a statement of the seat.
-/
import Derived.Test.YtiiipnfkkdfgbaaHead8
import Derived.Test.YtiiipnfkkdfgbaaHead21
import Derived.Test.YtiiipnfkkdfgbaaShelf
namespace Go.Proofs.Ytiiipnfkkdfgbaa.Off
open Go.ChangeShapes Go.WideShapes Go.ChangeAt Go.RowKit Base F Tx Hi Go.Sort Ri Lst
def boxR (b : Bad) : Obj := .cells #[.int .i64 b.tx, .int .i64 b.pl, .int .i64 b.t, .int .i64 b.k, .int .i64 b.n] 81
def zeroR : Obj := .cells #[.int .i64 0, .int .i64 0, .int .i64 0, .int .i64 0, .int .i64 0] 81
theorem cellsR {w : World} {g : Nat} {b : Bad} (h : w.heap[g]? = some (boxR b)) : w.cell? ⟨g, 0, none⟩ = some (.int .i64 b.tx) ∧ w.cell? ⟨g, 1, none⟩ = some (.int .i64 b.pl) ∧ w.cell? ⟨g, 2, none⟩ = some (.int .i64 b.t) ∧ w.cell? ⟨g, 3, none⟩ = some (.int .i64 b.k) ∧ w.cell? ⟨g, 4, none⟩ = some (.int .i64 b.n) := by
  unfold boxR at h
  simp [World.cell?, h]
set_option maxRecDepth 100000 in
theorem wp_alloc_arr {o : Oper} {a : Act} {w : World} {K : Act → World → Prop} {Q : Exit → Act → World → Prop} (ho : o.op = .alloc 81)
    (h : ∀ g w', g = w.heap.size → w' = w.alloc zeroR → K (a.put o.dst (.pointer (some ⟨g, 0, none⟩))) w') : o.wp Try.prog a w K Q := by
  obtain ⟨dst, op, type, pos, after, guard⟩ := o
  simp only at ho
  subst ho
  go_simp
  exact h _ _ rfl rfl
set_option maxRecDepth 100000 in
theorem wp_store_arr {o : Oper} {a : Act} {w : World} {K : Act → World → Prop} {Q : Exit → Act → World → Prop} (x y : Operand) (ho : o.op = .store 81 x y)
    (g : Nat) (b : Bad) (hx : a.eval x = .pointer (some ⟨g, 0, none⟩)) (hy : a.eval y = badV b) (hg : w.heap[g]? = some zeroR)
    (h : ∀ w', Stored w g (boxR b) w' → K (a.put o.dst undef) w') : o.wp Try.prog a w K Q :=
  wp_store_row _ x y ho g _ hx hy 81 _ hg (by kernel_rfl) rfl (by simp [Value.oneCell']) (h _ (stored_setRow _ _ _ _ _ hg))
set_option maxRecDepth 100000 in
theorem wpList_store_arr {ops : Array Oper} {rest : List Oper} {o : Oper} {a : Act} {w : World} {Q : Exit → Act → World → Prop} (hgd : o.guard = none) (x y : Operand) (ho : o.op = .store 81 x y)
    (g : Nat) (b : Bad) (hx : a.eval x = .pointer (some ⟨g, 0, none⟩)) (hy : a.eval y = badV b) (hg : w.heap[g]? = some zeroR)
    (h : ∀ w', Stored w g (boxR b) w' → wpList Try.prog ops Q rest (a.put o.dst undef) w') : wpList Try.prog ops Q (o :: rest) a w :=
  wpList_store_row hgd _ x y ho g _ hx hy 81 _ hg (by kernel_rfl) rfl (by simp [Value.oneCell']) (h _ (stored_setRow _ _ _ _ _ hg))
set_option maxRecDepth 100000 in
set_option maxHeartbeats 4000000 in
theorem ranks_any (b : Bad) (w : World) : Calls Try.prog 40 #[badV b] w (fun e w' => e = .returned (badV b) ∧ Aft w w') := by
  have HB : Hid (∀ W, W = (w.alloc (boxB b)).alloc zeroR → W.heap[w.heap.size + 1]? = some zeroR ∧ Aft w W) := Lib.hid fun W hW => by
    subst hW
    exact ⟨heap_alloc_at _ _ _ (by simp), (Aft.one _).lay _⟩
  obtain ⟨tx, pl, t, k, n⟩ := b
  unfold boxB zeroR at HB
  unfold badV
  simp only at HB ⊢
  go_enter Try.func40, Try.ntmps40
  go_wp2_with (refine wpList_store_arr rfl (.tmp 2) (.tmp 16) rfl (w.heap.size + 1) ⟨tx, pl, t, k, n⟩ rfl rfl (HB.out _ rfl).1 ?_; intro w4 hst; have HST := Lib.hid hst; clear hst)
  refine bodyPost_ret (v := badV ⟨tx, pl, t, k, n⟩) ?_ rfl ⟨rfl, stored_aft (HB.out _ rfl).2 (by omega) HST.out⟩
  exact results_cell_row Try.results40 _ _ (w.heap.size + 1) _ _ _ _ rfl HST.out.2.2.2.2.1 Try.underlying81 rfl (by kernel_rfl)
/-- Lists of one length, held against one another. -/
def cmpL : List Int → List Int → Int
  | x :: xs, y :: ys => if Lib.compareInt x y ≠ 0 then Lib.compareInt x y else cmpL xs ys
  | _, _ => 0
set_option maxRecDepth 100000 in
set_option maxHeartbeats 4000000 in
theorem compare_any {b1 b2 : Nat} {v u : Value} {xs ys : List Int} (w : World) (h : Ints b1 w v xs) (hu : Ints b2 w u ys) (hn : xs.length = ys.length) : Calls Try.prog 41 #[v, u] w (IntNew (cmpL xs ys) w) := by
  obtain ⟨p, c, rfl, _, hc⟩ := h.open_
  obtain ⟨q, d, rfl, hlu, hd⟩ := hu.open_
  have HC := Lib.hid hc
  have HD := Lib.hid hd
  have HN := Lib.hid hn
  have HS0 : Hid (Aft w w ∧ cmpL xs ys = cmpL (xs.drop 0) (ys.drop 0)) := Lib.hid ⟨Aft.refl w, by simp⟩
  generalize cmpL xs ys = r at HS0 ⊢
  obtain ⟨m, hm⟩ : ∃ m, m = ys.length := ⟨_, rfl⟩
  rw [← hm] at HD HN
  rw [← hm]
  have HM := Lib.hid hm
  have hmb : m ≤ 9223372036854775807 := by rw [hm]; omega
  have hxm : xs.length = m := HN.out
  rw [hxm] at HC ⊢
  clear h hu hc hd hn hm
  go_enter Try.func41, Try.ntmps41
  have HXM := Lib.hid hxm
  clear hxm
  go_wp2_with fail
  go_loopw [11] (fun s11 wr => ∃ k : Nat, s11 = .int .i64 (k : Int) ∧ k ≤ m ∧ Hid (Aft w wr ∧ r = cmpL (xs.drop k) (ys.drop k))) (fun s11 _ => m - (intOf s11).toNat)
  case atStart => exact ⟨0, rfl, Nat.zero_le _, HS0⟩
  case round =>
    clear HS0
    obtain ⟨k, rfl, hk, HS⟩ := hrel
    by_cases hlt : k < m
    · obtain ⟨g, o, rfl, _, hg, c0⟩ := HC.out k hlt
      obtain ⟨g', o', rfl, _, hg', d0⟩ := HD.out k hlt
      have c0 := HS.out.1.cell hg c0
      have d0 := HS.out.1.cell hg' d0
      have hg := Nat.lt_of_lt_of_le hg HS.out.1.size
      have hg' := Nat.lt_of_lt_of_le hg' HS.out.1.size
      have HAW := Lib.hid HS.out.1
      have HR : Hid (r = if Lib.compareInt (xs.getD k 0) (ys.getD k 0) ≠ 0 then Lib.compareInt (xs.getD k 0) (ys.getD k 0) else cmpL (xs.drop (k + 1)) (ys.drop (k + 1))) := Lib.hid (by rw [HS.out.2, drop_cons xs 0 k (by rw [HXM.out]; exact hlt), drop_cons ys 0 k (by rw [← HM.out]; exact hlt)]; rfl)
      have hkI : (k : Int) < (m : Int) := by omega
      have hkN : ¬ (m : Int) ≤ (k : Int) := by omega
      have HCM := Lib.hid (Try.cmp_Compare_int (xs.getD k 0) (ys.getD k 0) wr)
      generalize xs.getD k 0 = x at c0 HR HCM
      generalize ys.getD k 0 = y at d0 HR HCM
      generalize Lib.compareInt x y = z at HR HCM
      clear HS HC HD
      by_cases hz : z = 0
      · subst hz
        have HR2 : Hid (Aft w wr ∧ r = cmpL (xs.drop (k + 1)) (ys.drop (k + 1))) := Lib.hid ⟨HAW.out, by rw [HR.out]; simp⟩
        clear HR
        go_wp2_with (go_at_call 58; refine HCM.out.mono ?_; rintro e w' ⟨rfl, rfl⟩)
        go_roundw
        case rel => exact ⟨k + 1, by go_num, by omega, HR2⟩
        case measure => simp [intOf]; omega
      · have hz2 : (z != 0) = true := by rw [bne_iff_ne]; exact hz
        have HR2 : Hid (r = z) := Lib.hid (by rw [HR.out, if_pos hz])
        clear HR hz
        go_wp2_with (go_at_call 58; refine HCM.out.mono ?_; rintro e w' ⟨rfl, rfl⟩)
        go_ret
        exact ⟨ret_int HR2.out.symm, HAW.out⟩
    · have hke : k = m := by omega
      subst hke
      have HR2 : Hid (r = 0 ∧ Aft w wr) := Lib.hid ⟨by rw [HS.out.2, HM.out, List.drop_length, ← HM.out, ← HXM.out, List.drop_length]; rfl, HS.out.1⟩
      clear HS HC HD hlt hk
      go_wp2_with fail
      go_ret
      exact ⟨ret_int HR2.out.1.symm, HR2.out.2⟩
theorem less_cmp (a b : Bad) : decide (cmpL [a.tx, a.pl, a.t, a.k, a.n] [b.tx, b.pl, b.t, b.k, b.n] < 0) = lessB a b := by
  obtain ⟨a1, a2, a3, a4, a5⟩ := a
  obtain ⟨b1, b2, b3, b4, b5⟩ := b
  have key : ∀ (x y : Int) (r : Int), decide ((if Lib.compareInt x y ≠ 0 then Lib.compareInt x y else r) < 0) = if x ≠ y then decide (x < y) else decide (r < 0) := fun x y r => by
    unfold Lib.compareInt
    rcases Int.lt_trichotomy x y with h | h | h
    · have h2 : x ≠ y := by omega
      simp [h, h2]
    · subst h; simp
    · have h2 : x ≠ y := by omega
      have h3 : ¬ x < y := by omega
      simp [h2, h3, h]
  simp only [cmpL, lessB]
  refine (key a1 b1 _).trans ?_
  by_cases e1 : a1 = b1
  · rw [if_neg (show ¬ a1 ≠ b1 from fun h => h e1), if_neg (show ¬ a1 ≠ b1 from fun h => h e1)]
    refine (key a2 b2 _).trans ?_
    by_cases e2 : a2 = b2
    · rw [if_neg (show ¬ a2 ≠ b2 from fun h => h e2), if_neg (show ¬ a2 ≠ b2 from fun h => h e2)]
      refine (key a3 b3 _).trans ?_
      by_cases e3 : a3 = b3
      · rw [if_neg (show ¬ a3 ≠ b3 from fun h => h e3), if_neg (show ¬ a3 ≠ b3 from fun h => h e3)]
        refine (key a4 b4 _).trans ?_
        by_cases e4 : a4 = b4
        · rw [if_neg (show ¬ a4 ≠ b4 from fun h => h e4), if_neg (show ¬ a4 ≠ b4 from fun h => h e4)]
          refine (key a5 b5 _).trans ?_
          by_cases e5 : a5 = b5
          · subst e5; simp
          · rw [if_pos e5]
        · rw [if_pos e4, if_pos e4]
      · rw [if_pos e3, if_pos e3]
    · rw [if_pos e2, if_pos e2]
  · rw [if_pos e1, if_pos e1]
theorem ints_row (b : Bad) {w : World} {g : Nat} (h : w.heap[g]? = some (boxR b)) : Ints 0 w (.slice (some ⟨g, 0, none⟩) 5 5) [b.tx, b.pl, b.t, b.k, b.n] := by
  obtain ⟨c0, c1, c2, c3, c4⟩ := cellsR h
  refine .inr ⟨g, 0, 5, rfl, Nat.zero_le _, heap_lt h, by simp, fun k hk => ?_⟩
  have hk5 : k < 5 := hk
  match k, hk5 with
  | 0, _ => exact c0
  | 1, _ => exact c1
  | 2, _ => exact c2
  | 3, _ => exact c3
  | 4, _ => exact c4
set_option maxRecDepth 100000 in
set_option maxHeartbeats 8000000 in
theorem Less_any (a b : Bad) (w : World) : Calls Try.prog 18 #[badV a, badV b] w (BoolNew (lessB a b) w) := by
  obtain ⟨X, hX⟩ : ∃ X, X = (w.alloc (boxB a)).alloc (boxB b) := ⟨_, rfl⟩
  have HA : Hid (Aft w X) := Lib.hid (by rw [hX]; exact (Aft.one _).lay _)
  have HC : Hid (∀ W, Aft X W → (W.cell? ⟨w.heap.size, 0, none⟩ = some (.int .i64 a.tx) ∧ W.cell? ⟨w.heap.size, 1, none⟩ = some (.int .i64 a.pl) ∧ W.cell? ⟨w.heap.size, 2, none⟩ = some (.int .i64 a.t) ∧ W.cell? ⟨w.heap.size, 3, none⟩ = some (.int .i64 a.k) ∧ W.cell? ⟨w.heap.size, 4, none⟩ = some (.int .i64 a.n)) ∧ W.cell? ⟨w.heap.size + 1, 0, none⟩ = some (.int .i64 b.tx) ∧ W.cell? ⟨w.heap.size + 1, 1, none⟩ = some (.int .i64 b.pl) ∧ W.cell? ⟨w.heap.size + 1, 2, none⟩ = some (.int .i64 b.t) ∧ W.cell? ⟨w.heap.size + 1, 3, none⟩ = some (.int .i64 b.k) ∧ W.cell? ⟨w.heap.size + 1, 4, none⟩ = some (.int .i64 b.n)) := Lib.hid fun W hW => by
    have e : X.heap[w.heap.size]? = some (boxB a) := by rw [hX]; exact heap_alloc_lt _ _ _ _ (heap_alloc_at _ _ _ rfl)
    have e2 : X.heap[w.heap.size + 1]? = some (boxB b) := by rw [hX]; exact heap_alloc_at _ _ _ (by simp)
    exact ⟨cellsB ((hW.block _ (heap_lt e)).trans e), cellsB ((hW.block _ (heap_lt e2)).trans e2)⟩
  have HRA := Lib.hid (fun W => ranks_any a W)
  have HRB := Lib.hid (fun W => ranks_any b W)
  have HL : Hid (decide (cmpL [a.tx, a.pl, a.t, a.k, a.n] [b.tx, b.pl, b.t, b.k, b.n] < 0) = lessB a b) := Lib.hid (less_cmp a b)
  have HCM : Hid (∀ W g5 g6, W.heap[g5]? = some (boxR a) → W.heap[g6]? = some (boxR b) → Calls Try.prog 41 #[.slice (some ⟨g5, 0, none⟩) 5 5, .slice (some ⟨g6, 0, none⟩) 5 5] W (IntNew (cmpL [a.tx, a.pl, a.t, a.k, a.n] [b.tx, b.pl, b.t, b.k, b.n]) W)) := Lib.hid fun W g5 g6 h5 h6 => compare_any W (ints_row a h5) (ints_row b h6) rfl
  generalize cmpL [a.tx, a.pl, a.t, a.k, a.n] [b.tx, b.pl, b.t, b.k, b.n] = z at HL HCM
  generalize lessB a b = r at HL ⊢
  unfold boxB at hX
  unfold badV at HRA HRB
  unfold badV
  go_enter Try.func18, Try.ntmps18
  go_upto_region 1 with fail
  rw [← hX]
  clear hX
  go_cut [5, 6] (fun s5 s6 wx => ∃ g5 g6, s5 = .pointer (some ⟨g5, 0, none⟩) ∧ s6 = .pointer (some ⟨g6, 0, none⟩) ∧ Hid (RI X wx [(g5, boxR a), (g6, boxR b)]))
  case first =>
    have J0 : Hid (RI X X.drew []) := Lib.hid (RI.start _)
    refine wp_region_held_drew (S := (fun W => (W.cell? ⟨w.heap.size, 0, none⟩ = some (.int .i64 a.tx) ∧ W.cell? ⟨w.heap.size, 1, none⟩ = some (.int .i64 a.pl) ∧ W.cell? ⟨w.heap.size, 2, none⟩ = some (.int .i64 a.t) ∧ W.cell? ⟨w.heap.size, 3, none⟩ = some (.int .i64 a.k) ∧ W.cell? ⟨w.heap.size, 4, none⟩ = some (.int .i64 a.n)) ∧ W.cell? ⟨w.heap.size + 1, 0, none⟩ = some (.int .i64 b.tx) ∧ W.cell? ⟨w.heap.size + 1, 1, none⟩ = some (.int .i64 b.pl) ∧ W.cell? ⟨w.heap.size + 1, 2, none⟩ = some (.int .i64 b.t) ∧ W.cell? ⟨w.heap.size + 1, 3, none⟩ = some (.int .i64 b.k) ∧ W.cell? ⟨w.heap.size + 1, 4, none⟩ = some (.int .i64 b.n))) (by kernel_rfl) (HC.out _ J0.out.1) (fun hHeld0 => ?_)
    refine wpAnyH_take (i := 0) (v := ?_) rfl (by kernel_rfl) (by kernel_rfl) (by kernel_rfl) (fun _ _ _ h => h) (Or.inl ⟨by rfl, ?yp1⟩) (by assumption) ?qp1
    case yp1 => (intro wz hSw; (try dsimp only at hSw); go_simp <;> with_reducible rfl)
    try simp only [Act.put, List.getElem_toArray, List.getElem_cons_zero, List.setIfInBounds_toArray, List.set_cons_zero, List.set_cons_succ]
    refine wpAnyH_take (i := 2) (v := ?_) rfl (by kernel_rfl) (by kernel_rfl) (by kernel_rfl) (fun _ _ _ h => h) (Or.inl ⟨by rfl, ?yp2⟩) (by assumption) ?qp2
    case yp2 => (intro wz hSw; (try dsimp only at hSw); go_simp <;> with_reducible rfl)
    try simp only [Act.put, List.getElem_toArray, List.getElem_cons_zero, List.getElem_cons_succ, List.setIfInBounds_toArray, List.set_cons_zero, List.set_cons_succ]
    refine wpAnyH_ready (rs := [1, 4, 5]) (by kernel_rfl) (by simp) ?_
    refine AllReadyH.cons rfl (fun K hK => ?bp3) ?cp3
    case bp3 =>
      go_simp
      refine (HRA.out _).mono ?_
      rintro e wn3 ⟨rfl, hb3⟩
      have J3 := Lib.hid (J0.out.call hb3)
      clear hb3
      try go_wp2_with fail
      refine hK.out _ _ (HC.out _ J3.out.1) (fun hHeld3 => ?_)
      clear hK K
      try simp only [Act.put, List.getElem_toArray, List.getElem_cons_zero, List.getElem_cons_succ, List.setIfInBounds_toArray, List.set_cons_zero, List.set_cons_succ]
      refine wpAnyH_ready (rs := [3, 4, 5]) (by kernel_rfl) (by simp) ?_
      refine AllReadyH.cons rfl (fun K hK => ?bp4) ?cp4
      case bp4 =>
        go_simp
        refine (HRB.out _).mono ?_
        rintro e wn4 ⟨rfl, hb4⟩
        have J4 := Lib.hid (J3.out.call hb4)
        clear hb4
        try go_wp2_with fail
        refine hK.out _ _ (HC.out _ J4.out.1) (fun hHeld4 => ?_)
        clear hK K
        try simp only [Act.put, List.getElem_toArray, List.getElem_cons_zero, List.getElem_cons_succ, List.setIfInBounds_toArray, List.set_cons_zero, List.set_cons_succ]
        refine wpAnyH_ready (rs := [4, 5]) (by kernel_rfl) (by simp) ?_
        refine AllReadyH.cons rfl (fun K hK => ?bp5) ?cp5
        case bp5 =>
          rw [if_pos (by rfl)]
          refine wp_alloc_arr rfl ?_
          intro g5 wn5 hg5 hw5
          have J5 : Hid (RI X wn5 ((g5, zeroR) :: [])) := Lib.hid (by rw [hg5, hw5]; exact J4.out.alloc _)
          clear hg5 hw5
          refine hK.out _ _ (HC.out _ J5.out.1) (fun hHeld5 => ?_)
          clear hK K
          try simp only [Act.put, List.getElem_toArray, List.getElem_cons_zero, List.getElem_cons_succ, List.setIfInBounds_toArray, List.set_cons_zero, List.set_cons_succ]
          refine wpAnyH_ready (rs := [5]) (by kernel_rfl) (by simp) ?_
          refine AllReadyH.cons rfl (fun K hK => ?_) AllReadyH.nil
          rw [if_pos (by rfl)]
          refine wp_alloc_arr rfl ?_
          intro g6 wn6 hg6 hw6
          have J6 : Hid (RI X wn6 ((g6, zeroR) :: [(g5, zeroR)])) := Lib.hid (by rw [hg6, hw6]; exact J5.out.alloc _)
          clear hg6 hw6
          refine hK.out _ _ (HC.out _ J6.out.1) (fun hHeld6 => ?_)
          clear hK K
          try simp only [Act.put, List.getElem_toArray, List.getElem_cons_zero, List.getElem_cons_succ, List.setIfInBounds_toArray, List.set_cons_zero, List.set_cons_succ]
          refine wpAnyH_ready (rs := [6]) (by kernel_rfl) (by simp) ?_
          refine AllReadyH.cons rfl (fun K hK => ?_) AllReadyH.nil
          have JS7 := Lib.hid J6.out.swap
          rw [if_pos (by rfl)]
          refine wp_store_arr (.tmp 5) (.tmp 8) rfl g5 a rfl rfl (JS7.out.at_ (List.mem_cons_self ..)).1 ?_
          intro wn7 hst7
          have J7 := Lib.hid (JS7.out.store hst7)
          clear hst7
          refine hK.out _ _ (HC.out _ J7.out.1) (fun hHeld7 => ?_)
          clear hK K
          try simp only [Act.put, List.getElem_toArray, List.getElem_cons_zero, List.getElem_cons_succ]
          refine wpAnyH_ready (rs := [7]) (by kernel_rfl) (by simp) ?_
          refine AllReadyH.cons rfl (fun K hK => ?_) AllReadyH.nil
          have JS8 := Lib.hid J7.out.swap
          rw [if_pos (by rfl)]
          refine wp_store_arr (.tmp 6) (.tmp 10) rfl g6 b rfl rfl (JS8.out.at_ (List.mem_cons_self ..)).1 ?_
          intro wn8 hst8
          have J8 := Lib.hid (JS8.out.store hst8)
          clear hst8
          refine hK.out _ _ (HC.out _ J8.out.1) (fun hHeld8 => ?_)
          clear hK K
          try simp only [Act.put, List.getElem_toArray, List.getElem_cons_zero, List.getElem_cons_succ]
          refine wpAnyH_done (by kernel_rfl) ?_ _
          go_wp2_with fail
          go_meet
          case rel => exact ⟨g5, g6, rfl, rfl, Lib.hid (J8.out.swap)⟩
        refine AllReadyH.cons rfl (fun K hK => ?bp9) ?cp9
        case bp9 =>
          rw [if_pos (by rfl)]
          refine wp_alloc_arr rfl ?_
          intro g6 wn9 hg9 hw9
          have J9 : Hid (RI X wn9 ((g6, zeroR) :: [])) := Lib.hid (by rw [hg9, hw9]; exact J4.out.alloc _)
          clear hg9 hw9
          refine hK.out _ _ (HC.out _ J9.out.1) (fun hHeld9 => ?_)
          clear hK K
          try simp only [Act.put, List.getElem_toArray, List.getElem_cons_zero, List.getElem_cons_succ, List.setIfInBounds_toArray, List.set_cons_zero, List.set_cons_succ]
          refine wpAnyH_ready (rs := [4]) (by kernel_rfl) (by simp) ?_
          refine AllReadyH.cons rfl (fun K hK => ?_) AllReadyH.nil
          rw [if_pos (by rfl)]
          refine wp_alloc_arr rfl ?_
          intro g5 wn10 hg10 hw10
          have J10 : Hid (RI X wn10 ((g5, zeroR) :: [(g6, zeroR)])) := Lib.hid (by rw [hg10, hw10]; exact J9.out.alloc _)
          clear hg10 hw10
          refine hK.out _ _ (HC.out _ J10.out.1) (fun hHeld10 => ?_)
          clear hK K
          try simp only [Act.put, List.getElem_toArray, List.getElem_cons_zero, List.getElem_cons_succ, List.setIfInBounds_toArray, List.set_cons_zero, List.set_cons_succ]
          refine wpAnyH_ready (rs := [6]) (by kernel_rfl) (by simp) ?_
          refine AllReadyH.cons rfl (fun K hK => ?_) AllReadyH.nil
          rw [if_pos (by rfl)]
          refine wp_store_arr (.tmp 5) (.tmp 8) rfl g5 a rfl rfl (J10.out.at_ (List.mem_cons_self ..)).1 ?_
          intro wn11 hst11
          have J11 := Lib.hid (J10.out.store hst11)
          clear hst11
          refine hK.out _ _ (HC.out _ J11.out.1) (fun hHeld11 => ?_)
          clear hK K
          try simp only [Act.put, List.getElem_toArray, List.getElem_cons_zero, List.getElem_cons_succ]
          refine wpAnyH_ready (rs := [7]) (by kernel_rfl) (by simp) ?_
          refine AllReadyH.cons rfl (fun K hK => ?_) AllReadyH.nil
          have JS12 := Lib.hid J11.out.swap
          rw [if_pos (by rfl)]
          refine wp_store_arr (.tmp 6) (.tmp 10) rfl g6 b rfl rfl (JS12.out.at_ (List.mem_cons_self ..)).1 ?_
          intro wn12 hst12
          have J12 := Lib.hid (JS12.out.store hst12)
          clear hst12
          refine hK.out _ _ (HC.out _ J12.out.1) (fun hHeld12 => ?_)
          clear hK K
          try simp only [Act.put, List.getElem_toArray, List.getElem_cons_zero, List.getElem_cons_succ]
          refine wpAnyH_done (by kernel_rfl) ?_ _
          go_wp2_with fail
          go_meet
          case rel => exact ⟨g5, g6, rfl, rfl, Lib.hid (J12.out.swap)⟩
        exact AllReadyH.nil
      refine AllReadyH.cons rfl (fun K hK => ?bp13) ?cp13
      case bp13 =>
        rw [if_pos (by rfl)]
        refine wp_alloc_arr rfl ?_
        intro g5 wn13 hg13 hw13
        have J13 : Hid (RI X wn13 ((g5, zeroR) :: [])) := Lib.hid (by rw [hg13, hw13]; exact J3.out.alloc _)
        clear hg13 hw13
        refine hK.out _ _ (HC.out _ J13.out.1) (fun hHeld13 => ?_)
        clear hK K
        try simp only [Act.put, List.getElem_toArray, List.getElem_cons_zero, List.getElem_cons_succ, List.setIfInBounds_toArray, List.set_cons_zero, List.set_cons_succ]
        refine wpAnyH_ready (rs := [3, 5]) (by kernel_rfl) (by simp) ?_
        refine AllReadyH.cons rfl (fun K hK => ?bp14) ?cp14
        case bp14 =>
          go_simp
          refine (HRB.out _).mono ?_
          rintro e wn14 ⟨rfl, hb14⟩
          have J14 := Lib.hid (J13.out.call hb14)
          clear hb14
          try go_wp2_with fail
          refine hK.out _ _ (HC.out _ J14.out.1) (fun hHeld14 => ?_)
          clear hK K
          try simp only [Act.put, List.getElem_toArray, List.getElem_cons_zero, List.getElem_cons_succ, List.setIfInBounds_toArray, List.set_cons_zero, List.set_cons_succ]
          refine wpAnyH_ready (rs := [5]) (by kernel_rfl) (by simp) ?_
          refine AllReadyH.cons rfl (fun K hK => ?_) AllReadyH.nil
          rw [if_pos (by rfl)]
          refine wp_alloc_arr rfl ?_
          intro g6 wn15 hg15 hw15
          have J15 : Hid (RI X wn15 ((g6, zeroR) :: [(g5, zeroR)])) := Lib.hid (by rw [hg15, hw15]; exact J14.out.alloc _)
          clear hg15 hw15
          refine hK.out _ _ (HC.out _ J15.out.1) (fun hHeld15 => ?_)
          clear hK K
          try simp only [Act.put, List.getElem_toArray, List.getElem_cons_zero, List.getElem_cons_succ, List.setIfInBounds_toArray, List.set_cons_zero, List.set_cons_succ]
          refine wpAnyH_ready (rs := [6]) (by kernel_rfl) (by simp) ?_
          refine AllReadyH.cons rfl (fun K hK => ?_) AllReadyH.nil
          have JS16 := Lib.hid J15.out.swap
          rw [if_pos (by rfl)]
          refine wp_store_arr (.tmp 5) (.tmp 8) rfl g5 a rfl rfl (JS16.out.at_ (List.mem_cons_self ..)).1 ?_
          intro wn16 hst16
          have J16 := Lib.hid (JS16.out.store hst16)
          clear hst16
          refine hK.out _ _ (HC.out _ J16.out.1) (fun hHeld16 => ?_)
          clear hK K
          try simp only [Act.put, List.getElem_toArray, List.getElem_cons_zero, List.getElem_cons_succ]
          refine wpAnyH_ready (rs := [7]) (by kernel_rfl) (by simp) ?_
          refine AllReadyH.cons rfl (fun K hK => ?_) AllReadyH.nil
          have JS17 := Lib.hid J16.out.swap
          rw [if_pos (by rfl)]
          refine wp_store_arr (.tmp 6) (.tmp 10) rfl g6 b rfl rfl (JS17.out.at_ (List.mem_cons_self ..)).1 ?_
          intro wn17 hst17
          have J17 := Lib.hid (JS17.out.store hst17)
          clear hst17
          refine hK.out _ _ (HC.out _ J17.out.1) (fun hHeld17 => ?_)
          clear hK K
          try simp only [Act.put, List.getElem_toArray, List.getElem_cons_zero, List.getElem_cons_succ]
          refine wpAnyH_done (by kernel_rfl) ?_ _
          go_wp2_with fail
          go_meet
          case rel => exact ⟨g5, g6, rfl, rfl, Lib.hid (J17.out.swap)⟩
        refine AllReadyH.cons rfl (fun K hK => ?bp18) ?cp18
        case bp18 =>
          rw [if_pos (by rfl)]
          refine wp_alloc_arr rfl ?_
          intro g6 wn18 hg18 hw18
          have J18 : Hid (RI X wn18 ((g6, zeroR) :: [(g5, zeroR)])) := Lib.hid (by rw [hg18, hw18]; exact J13.out.alloc _)
          clear hg18 hw18
          refine hK.out _ _ (HC.out _ J18.out.1) (fun hHeld18 => ?_)
          clear hK K
          try simp only [Act.put, List.getElem_toArray, List.getElem_cons_zero, List.getElem_cons_succ, List.setIfInBounds_toArray, List.set_cons_zero, List.set_cons_succ]
          refine wpAnyH_ready (rs := [3]) (by kernel_rfl) (by simp) ?_
          refine AllReadyH.cons rfl (fun K hK => ?_) AllReadyH.nil
          go_simp
          refine (HRB.out _).mono ?_
          rintro e wn19 ⟨rfl, hb19⟩
          have J19 := Lib.hid (J18.out.call hb19)
          clear hb19
          try go_wp2_with fail
          refine hK.out _ _ (HC.out _ J19.out.1) (fun hHeld19 => ?_)
          clear hK K
          try simp only [Act.put, List.getElem_toArray, List.getElem_cons_zero, List.getElem_cons_succ, List.setIfInBounds_toArray, List.set_cons_zero, List.set_cons_succ]
          refine wpAnyH_ready (rs := [6]) (by kernel_rfl) (by simp) ?_
          refine AllReadyH.cons rfl (fun K hK => ?_) AllReadyH.nil
          have JS20 := Lib.hid J19.out.swap
          rw [if_pos (by rfl)]
          refine wp_store_arr (.tmp 5) (.tmp 8) rfl g5 a rfl rfl (JS20.out.at_ (List.mem_cons_self ..)).1 ?_
          intro wn20 hst20
          have J20 := Lib.hid (JS20.out.store hst20)
          clear hst20
          refine hK.out _ _ (HC.out _ J20.out.1) (fun hHeld20 => ?_)
          clear hK K
          try simp only [Act.put, List.getElem_toArray, List.getElem_cons_zero, List.getElem_cons_succ]
          refine wpAnyH_ready (rs := [7]) (by kernel_rfl) (by simp) ?_
          refine AllReadyH.cons rfl (fun K hK => ?_) AllReadyH.nil
          have JS21 := Lib.hid J20.out.swap
          rw [if_pos (by rfl)]
          refine wp_store_arr (.tmp 6) (.tmp 10) rfl g6 b rfl rfl (JS21.out.at_ (List.mem_cons_self ..)).1 ?_
          intro wn21 hst21
          have J21 := Lib.hid (JS21.out.store hst21)
          clear hst21
          refine hK.out _ _ (HC.out _ J21.out.1) (fun hHeld21 => ?_)
          clear hK K
          try simp only [Act.put, List.getElem_toArray, List.getElem_cons_zero, List.getElem_cons_succ]
          refine wpAnyH_done (by kernel_rfl) ?_ _
          go_wp2_with fail
          go_meet
          case rel => exact ⟨g5, g6, rfl, rfl, Lib.hid (J21.out.swap)⟩
        exact AllReadyH.nil
      refine AllReadyH.cons rfl (fun K hK => ?bp22) ?cp22
      case bp22 =>
        rw [if_pos (by rfl)]
        refine wp_alloc_arr rfl ?_
        intro g6 wn22 hg22 hw22
        have J22 : Hid (RI X wn22 ((g6, zeroR) :: [])) := Lib.hid (by rw [hg22, hw22]; exact J3.out.alloc _)
        clear hg22 hw22
        refine hK.out _ _ (HC.out _ J22.out.1) (fun hHeld22 => ?_)
        clear hK K
        try simp only [Act.put, List.getElem_toArray, List.getElem_cons_zero, List.getElem_cons_succ, List.setIfInBounds_toArray, List.set_cons_zero, List.set_cons_succ]
        refine wpAnyH_ready (rs := [3, 4]) (by kernel_rfl) (by simp) ?_
        refine AllReadyH.cons rfl (fun K hK => ?bp23) ?cp23
        case bp23 =>
          go_simp
          refine (HRB.out _).mono ?_
          rintro e wn23 ⟨rfl, hb23⟩
          have J23 := Lib.hid (J22.out.call hb23)
          clear hb23
          try go_wp2_with fail
          refine hK.out _ _ (HC.out _ J23.out.1) (fun hHeld23 => ?_)
          clear hK K
          try simp only [Act.put, List.getElem_toArray, List.getElem_cons_zero, List.getElem_cons_succ, List.setIfInBounds_toArray, List.set_cons_zero, List.set_cons_succ]
          refine wpAnyH_ready (rs := [4]) (by kernel_rfl) (by simp) ?_
          refine AllReadyH.cons rfl (fun K hK => ?_) AllReadyH.nil
          rw [if_pos (by rfl)]
          refine wp_alloc_arr rfl ?_
          intro g5 wn24 hg24 hw24
          have J24 : Hid (RI X wn24 ((g5, zeroR) :: [(g6, zeroR)])) := Lib.hid (by rw [hg24, hw24]; exact J23.out.alloc _)
          clear hg24 hw24
          refine hK.out _ _ (HC.out _ J24.out.1) (fun hHeld24 => ?_)
          clear hK K
          try simp only [Act.put, List.getElem_toArray, List.getElem_cons_zero, List.getElem_cons_succ, List.setIfInBounds_toArray, List.set_cons_zero, List.set_cons_succ]
          refine wpAnyH_ready (rs := [6]) (by kernel_rfl) (by simp) ?_
          refine AllReadyH.cons rfl (fun K hK => ?_) AllReadyH.nil
          rw [if_pos (by rfl)]
          refine wp_store_arr (.tmp 5) (.tmp 8) rfl g5 a rfl rfl (J24.out.at_ (List.mem_cons_self ..)).1 ?_
          intro wn25 hst25
          have J25 := Lib.hid (J24.out.store hst25)
          clear hst25
          refine hK.out _ _ (HC.out _ J25.out.1) (fun hHeld25 => ?_)
          clear hK K
          try simp only [Act.put, List.getElem_toArray, List.getElem_cons_zero, List.getElem_cons_succ]
          refine wpAnyH_ready (rs := [7]) (by kernel_rfl) (by simp) ?_
          refine AllReadyH.cons rfl (fun K hK => ?_) AllReadyH.nil
          have JS26 := Lib.hid J25.out.swap
          rw [if_pos (by rfl)]
          refine wp_store_arr (.tmp 6) (.tmp 10) rfl g6 b rfl rfl (JS26.out.at_ (List.mem_cons_self ..)).1 ?_
          intro wn26 hst26
          have J26 := Lib.hid (JS26.out.store hst26)
          clear hst26
          refine hK.out _ _ (HC.out _ J26.out.1) (fun hHeld26 => ?_)
          clear hK K
          try simp only [Act.put, List.getElem_toArray, List.getElem_cons_zero, List.getElem_cons_succ]
          refine wpAnyH_done (by kernel_rfl) ?_ _
          go_wp2_with fail
          go_meet
          case rel => exact ⟨g5, g6, rfl, rfl, Lib.hid (J26.out.swap)⟩
        refine AllReadyH.cons rfl (fun K hK => ?bp27) ?cp27
        case bp27 =>
          rw [if_pos (by rfl)]
          refine wp_alloc_arr rfl ?_
          intro g5 wn27 hg27 hw27
          have J27 : Hid (RI X wn27 ((g5, zeroR) :: [(g6, zeroR)])) := Lib.hid (by rw [hg27, hw27]; exact J22.out.alloc _)
          clear hg27 hw27
          refine hK.out _ _ (HC.out _ J27.out.1) (fun hHeld27 => ?_)
          clear hK K
          try simp only [Act.put, List.getElem_toArray, List.getElem_cons_zero, List.getElem_cons_succ, List.setIfInBounds_toArray, List.set_cons_zero, List.set_cons_succ]
          refine wpAnyH_ready (rs := [3]) (by kernel_rfl) (by simp) ?_
          refine AllReadyH.cons rfl (fun K hK => ?_) AllReadyH.nil
          go_simp
          refine (HRB.out _).mono ?_
          rintro e wn28 ⟨rfl, hb28⟩
          have J28 := Lib.hid (J27.out.call hb28)
          clear hb28
          try go_wp2_with fail
          refine hK.out _ _ (HC.out _ J28.out.1) (fun hHeld28 => ?_)
          clear hK K
          try simp only [Act.put, List.getElem_toArray, List.getElem_cons_zero, List.getElem_cons_succ, List.setIfInBounds_toArray, List.set_cons_zero, List.set_cons_succ]
          refine wpAnyH_ready (rs := [6]) (by kernel_rfl) (by simp) ?_
          refine AllReadyH.cons rfl (fun K hK => ?_) AllReadyH.nil
          rw [if_pos (by rfl)]
          refine wp_store_arr (.tmp 5) (.tmp 8) rfl g5 a rfl rfl (J28.out.at_ (List.mem_cons_self ..)).1 ?_
          intro wn29 hst29
          have J29 := Lib.hid (J28.out.store hst29)
          clear hst29
          refine hK.out _ _ (HC.out _ J29.out.1) (fun hHeld29 => ?_)
          clear hK K
          try simp only [Act.put, List.getElem_toArray, List.getElem_cons_zero, List.getElem_cons_succ]
          refine wpAnyH_ready (rs := [7]) (by kernel_rfl) (by simp) ?_
          refine AllReadyH.cons rfl (fun K hK => ?_) AllReadyH.nil
          have JS30 := Lib.hid J29.out.swap
          rw [if_pos (by rfl)]
          refine wp_store_arr (.tmp 6) (.tmp 10) rfl g6 b rfl rfl (JS30.out.at_ (List.mem_cons_self ..)).1 ?_
          intro wn30 hst30
          have J30 := Lib.hid (JS30.out.store hst30)
          clear hst30
          refine hK.out _ _ (HC.out _ J30.out.1) (fun hHeld30 => ?_)
          clear hK K
          try simp only [Act.put, List.getElem_toArray, List.getElem_cons_zero, List.getElem_cons_succ]
          refine wpAnyH_done (by kernel_rfl) ?_ _
          go_wp2_with fail
          go_meet
          case rel => exact ⟨g5, g6, rfl, rfl, Lib.hid (J30.out.swap)⟩
        exact AllReadyH.nil
      exact AllReadyH.nil
    refine AllReadyH.cons rfl (fun K hK => ?bp31) ?cp31
    case bp31 =>
      rw [if_pos (by rfl)]
      refine wp_alloc_arr rfl ?_
      intro g5 wn31 hg31 hw31
      have J31 : Hid (RI X wn31 ((g5, zeroR) :: [])) := Lib.hid (by rw [hg31, hw31]; exact J0.out.alloc _)
      clear hg31 hw31
      refine hK.out _ _ (HC.out _ J31.out.1) (fun hHeld31 => ?_)
      clear hK K
      try simp only [Act.put, List.getElem_toArray, List.getElem_cons_zero, List.getElem_cons_succ, List.setIfInBounds_toArray, List.set_cons_zero, List.set_cons_succ]
      refine wpAnyH_ready (rs := [1, 5]) (by kernel_rfl) (by simp) ?_
      refine AllReadyH.cons rfl (fun K hK => ?bp32) ?cp32
      case bp32 =>
        go_simp
        refine (HRA.out _).mono ?_
        rintro e wn32 ⟨rfl, hb32⟩
        have J32 := Lib.hid (J31.out.call hb32)
        clear hb32
        try go_wp2_with fail
        refine hK.out _ _ (HC.out _ J32.out.1) (fun hHeld32 => ?_)
        clear hK K
        try simp only [Act.put, List.getElem_toArray, List.getElem_cons_zero, List.getElem_cons_succ, List.setIfInBounds_toArray, List.set_cons_zero, List.set_cons_succ]
        refine wpAnyH_ready (rs := [3, 5]) (by kernel_rfl) (by simp) ?_
        refine AllReadyH.cons rfl (fun K hK => ?bp33) ?cp33
        case bp33 =>
          go_simp
          refine (HRB.out _).mono ?_
          rintro e wn33 ⟨rfl, hb33⟩
          have J33 := Lib.hid (J32.out.call hb33)
          clear hb33
          try go_wp2_with fail
          refine hK.out _ _ (HC.out _ J33.out.1) (fun hHeld33 => ?_)
          clear hK K
          try simp only [Act.put, List.getElem_toArray, List.getElem_cons_zero, List.getElem_cons_succ, List.setIfInBounds_toArray, List.set_cons_zero, List.set_cons_succ]
          refine wpAnyH_ready (rs := [5]) (by kernel_rfl) (by simp) ?_
          refine AllReadyH.cons rfl (fun K hK => ?_) AllReadyH.nil
          rw [if_pos (by rfl)]
          refine wp_alloc_arr rfl ?_
          intro g6 wn34 hg34 hw34
          have J34 : Hid (RI X wn34 ((g6, zeroR) :: [(g5, zeroR)])) := Lib.hid (by rw [hg34, hw34]; exact J33.out.alloc _)
          clear hg34 hw34
          refine hK.out _ _ (HC.out _ J34.out.1) (fun hHeld34 => ?_)
          clear hK K
          try simp only [Act.put, List.getElem_toArray, List.getElem_cons_zero, List.getElem_cons_succ, List.setIfInBounds_toArray, List.set_cons_zero, List.set_cons_succ]
          refine wpAnyH_ready (rs := [6]) (by kernel_rfl) (by simp) ?_
          refine AllReadyH.cons rfl (fun K hK => ?_) AllReadyH.nil
          have JS35 := Lib.hid J34.out.swap
          rw [if_pos (by rfl)]
          refine wp_store_arr (.tmp 5) (.tmp 8) rfl g5 a rfl rfl (JS35.out.at_ (List.mem_cons_self ..)).1 ?_
          intro wn35 hst35
          have J35 := Lib.hid (JS35.out.store hst35)
          clear hst35
          refine hK.out _ _ (HC.out _ J35.out.1) (fun hHeld35 => ?_)
          clear hK K
          try simp only [Act.put, List.getElem_toArray, List.getElem_cons_zero, List.getElem_cons_succ]
          refine wpAnyH_ready (rs := [7]) (by kernel_rfl) (by simp) ?_
          refine AllReadyH.cons rfl (fun K hK => ?_) AllReadyH.nil
          have JS36 := Lib.hid J35.out.swap
          rw [if_pos (by rfl)]
          refine wp_store_arr (.tmp 6) (.tmp 10) rfl g6 b rfl rfl (JS36.out.at_ (List.mem_cons_self ..)).1 ?_
          intro wn36 hst36
          have J36 := Lib.hid (JS36.out.store hst36)
          clear hst36
          refine hK.out _ _ (HC.out _ J36.out.1) (fun hHeld36 => ?_)
          clear hK K
          try simp only [Act.put, List.getElem_toArray, List.getElem_cons_zero, List.getElem_cons_succ]
          refine wpAnyH_done (by kernel_rfl) ?_ _
          go_wp2_with fail
          go_meet
          case rel => exact ⟨g5, g6, rfl, rfl, Lib.hid (J36.out.swap)⟩
        refine AllReadyH.cons rfl (fun K hK => ?bp37) ?cp37
        case bp37 =>
          rw [if_pos (by rfl)]
          refine wp_alloc_arr rfl ?_
          intro g6 wn37 hg37 hw37
          have J37 : Hid (RI X wn37 ((g6, zeroR) :: [(g5, zeroR)])) := Lib.hid (by rw [hg37, hw37]; exact J32.out.alloc _)
          clear hg37 hw37
          refine hK.out _ _ (HC.out _ J37.out.1) (fun hHeld37 => ?_)
          clear hK K
          try simp only [Act.put, List.getElem_toArray, List.getElem_cons_zero, List.getElem_cons_succ, List.setIfInBounds_toArray, List.set_cons_zero, List.set_cons_succ]
          refine wpAnyH_ready (rs := [3]) (by kernel_rfl) (by simp) ?_
          refine AllReadyH.cons rfl (fun K hK => ?_) AllReadyH.nil
          go_simp
          refine (HRB.out _).mono ?_
          rintro e wn38 ⟨rfl, hb38⟩
          have J38 := Lib.hid (J37.out.call hb38)
          clear hb38
          try go_wp2_with fail
          refine hK.out _ _ (HC.out _ J38.out.1) (fun hHeld38 => ?_)
          clear hK K
          try simp only [Act.put, List.getElem_toArray, List.getElem_cons_zero, List.getElem_cons_succ, List.setIfInBounds_toArray, List.set_cons_zero, List.set_cons_succ]
          refine wpAnyH_ready (rs := [6]) (by kernel_rfl) (by simp) ?_
          refine AllReadyH.cons rfl (fun K hK => ?_) AllReadyH.nil
          have JS39 := Lib.hid J38.out.swap
          rw [if_pos (by rfl)]
          refine wp_store_arr (.tmp 5) (.tmp 8) rfl g5 a rfl rfl (JS39.out.at_ (List.mem_cons_self ..)).1 ?_
          intro wn39 hst39
          have J39 := Lib.hid (JS39.out.store hst39)
          clear hst39
          refine hK.out _ _ (HC.out _ J39.out.1) (fun hHeld39 => ?_)
          clear hK K
          try simp only [Act.put, List.getElem_toArray, List.getElem_cons_zero, List.getElem_cons_succ]
          refine wpAnyH_ready (rs := [7]) (by kernel_rfl) (by simp) ?_
          refine AllReadyH.cons rfl (fun K hK => ?_) AllReadyH.nil
          have JS40 := Lib.hid J39.out.swap
          rw [if_pos (by rfl)]
          refine wp_store_arr (.tmp 6) (.tmp 10) rfl g6 b rfl rfl (JS40.out.at_ (List.mem_cons_self ..)).1 ?_
          intro wn40 hst40
          have J40 := Lib.hid (JS40.out.store hst40)
          clear hst40
          refine hK.out _ _ (HC.out _ J40.out.1) (fun hHeld40 => ?_)
          clear hK K
          try simp only [Act.put, List.getElem_toArray, List.getElem_cons_zero, List.getElem_cons_succ]
          refine wpAnyH_done (by kernel_rfl) ?_ _
          go_wp2_with fail
          go_meet
          case rel => exact ⟨g5, g6, rfl, rfl, Lib.hid (J40.out.swap)⟩
        exact AllReadyH.nil
      refine AllReadyH.cons rfl (fun K hK => ?bp41) ?cp41
      case bp41 =>
        rw [if_pos (by rfl)]
        refine wp_alloc_arr rfl ?_
        intro g6 wn41 hg41 hw41
        have J41 : Hid (RI X wn41 ((g6, zeroR) :: [(g5, zeroR)])) := Lib.hid (by rw [hg41, hw41]; exact J31.out.alloc _)
        clear hg41 hw41
        refine hK.out _ _ (HC.out _ J41.out.1) (fun hHeld41 => ?_)
        clear hK K
        try simp only [Act.put, List.getElem_toArray, List.getElem_cons_zero, List.getElem_cons_succ, List.setIfInBounds_toArray, List.set_cons_zero, List.set_cons_succ]
        refine wpAnyH_ready (rs := [1]) (by kernel_rfl) (by simp) ?_
        refine AllReadyH.cons rfl (fun K hK => ?_) AllReadyH.nil
        go_simp
        refine (HRA.out _).mono ?_
        rintro e wn42 ⟨rfl, hb42⟩
        have J42 := Lib.hid (J41.out.call hb42)
        clear hb42
        try go_wp2_with fail
        refine hK.out _ _ (HC.out _ J42.out.1) (fun hHeld42 => ?_)
        clear hK K
        try simp only [Act.put, List.getElem_toArray, List.getElem_cons_zero, List.getElem_cons_succ, List.setIfInBounds_toArray, List.set_cons_zero, List.set_cons_succ]
        refine wpAnyH_ready (rs := [3]) (by kernel_rfl) (by simp) ?_
        refine AllReadyH.cons rfl (fun K hK => ?_) AllReadyH.nil
        go_simp
        refine (HRB.out _).mono ?_
        rintro e wn43 ⟨rfl, hb43⟩
        have J43 := Lib.hid (J42.out.call hb43)
        clear hb43
        try go_wp2_with fail
        refine hK.out _ _ (HC.out _ J43.out.1) (fun hHeld43 => ?_)
        clear hK K
        try simp only [Act.put, List.getElem_toArray, List.getElem_cons_zero, List.getElem_cons_succ, List.setIfInBounds_toArray, List.set_cons_zero, List.set_cons_succ]
        refine wpAnyH_ready (rs := [6]) (by kernel_rfl) (by simp) ?_
        refine AllReadyH.cons rfl (fun K hK => ?_) AllReadyH.nil
        have JS44 := Lib.hid J43.out.swap
        rw [if_pos (by rfl)]
        refine wp_store_arr (.tmp 5) (.tmp 8) rfl g5 a rfl rfl (JS44.out.at_ (List.mem_cons_self ..)).1 ?_
        intro wn44 hst44
        have J44 := Lib.hid (JS44.out.store hst44)
        clear hst44
        refine hK.out _ _ (HC.out _ J44.out.1) (fun hHeld44 => ?_)
        clear hK K
        try simp only [Act.put, List.getElem_toArray, List.getElem_cons_zero, List.getElem_cons_succ]
        refine wpAnyH_ready (rs := [7]) (by kernel_rfl) (by simp) ?_
        refine AllReadyH.cons rfl (fun K hK => ?_) AllReadyH.nil
        have JS45 := Lib.hid J44.out.swap
        rw [if_pos (by rfl)]
        refine wp_store_arr (.tmp 6) (.tmp 10) rfl g6 b rfl rfl (JS45.out.at_ (List.mem_cons_self ..)).1 ?_
        intro wn45 hst45
        have J45 := Lib.hid (JS45.out.store hst45)
        clear hst45
        refine hK.out _ _ (HC.out _ J45.out.1) (fun hHeld45 => ?_)
        clear hK K
        try simp only [Act.put, List.getElem_toArray, List.getElem_cons_zero, List.getElem_cons_succ]
        refine wpAnyH_done (by kernel_rfl) ?_ _
        go_wp2_with fail
        go_meet
        case rel => exact ⟨g5, g6, rfl, rfl, Lib.hid (J45.out.swap)⟩
      exact AllReadyH.nil
    refine AllReadyH.cons rfl (fun K hK => ?bp46) ?cp46
    case bp46 =>
      rw [if_pos (by rfl)]
      refine wp_alloc_arr rfl ?_
      intro g6 wn46 hg46 hw46
      have J46 : Hid (RI X wn46 ((g6, zeroR) :: [])) := Lib.hid (by rw [hg46, hw46]; exact J0.out.alloc _)
      clear hg46 hw46
      refine hK.out _ _ (HC.out _ J46.out.1) (fun hHeld46 => ?_)
      clear hK K
      try simp only [Act.put, List.getElem_toArray, List.getElem_cons_zero, List.getElem_cons_succ, List.setIfInBounds_toArray, List.set_cons_zero, List.set_cons_succ]
      refine wpAnyH_ready (rs := [1, 4]) (by kernel_rfl) (by simp) ?_
      refine AllReadyH.cons rfl (fun K hK => ?bp47) ?cp47
      case bp47 =>
        go_simp
        refine (HRA.out _).mono ?_
        rintro e wn47 ⟨rfl, hb47⟩
        have J47 := Lib.hid (J46.out.call hb47)
        clear hb47
        try go_wp2_with fail
        refine hK.out _ _ (HC.out _ J47.out.1) (fun hHeld47 => ?_)
        clear hK K
        try simp only [Act.put, List.getElem_toArray, List.getElem_cons_zero, List.getElem_cons_succ, List.setIfInBounds_toArray, List.set_cons_zero, List.set_cons_succ]
        refine wpAnyH_ready (rs := [3, 4]) (by kernel_rfl) (by simp) ?_
        refine AllReadyH.cons rfl (fun K hK => ?bp48) ?cp48
        case bp48 =>
          go_simp
          refine (HRB.out _).mono ?_
          rintro e wn48 ⟨rfl, hb48⟩
          have J48 := Lib.hid (J47.out.call hb48)
          clear hb48
          try go_wp2_with fail
          refine hK.out _ _ (HC.out _ J48.out.1) (fun hHeld48 => ?_)
          clear hK K
          try simp only [Act.put, List.getElem_toArray, List.getElem_cons_zero, List.getElem_cons_succ, List.setIfInBounds_toArray, List.set_cons_zero, List.set_cons_succ]
          refine wpAnyH_ready (rs := [4]) (by kernel_rfl) (by simp) ?_
          refine AllReadyH.cons rfl (fun K hK => ?_) AllReadyH.nil
          rw [if_pos (by rfl)]
          refine wp_alloc_arr rfl ?_
          intro g5 wn49 hg49 hw49
          have J49 : Hid (RI X wn49 ((g5, zeroR) :: [(g6, zeroR)])) := Lib.hid (by rw [hg49, hw49]; exact J48.out.alloc _)
          clear hg49 hw49
          refine hK.out _ _ (HC.out _ J49.out.1) (fun hHeld49 => ?_)
          clear hK K
          try simp only [Act.put, List.getElem_toArray, List.getElem_cons_zero, List.getElem_cons_succ, List.setIfInBounds_toArray, List.set_cons_zero, List.set_cons_succ]
          refine wpAnyH_ready (rs := [6]) (by kernel_rfl) (by simp) ?_
          refine AllReadyH.cons rfl (fun K hK => ?_) AllReadyH.nil
          rw [if_pos (by rfl)]
          refine wp_store_arr (.tmp 5) (.tmp 8) rfl g5 a rfl rfl (J49.out.at_ (List.mem_cons_self ..)).1 ?_
          intro wn50 hst50
          have J50 := Lib.hid (J49.out.store hst50)
          clear hst50
          refine hK.out _ _ (HC.out _ J50.out.1) (fun hHeld50 => ?_)
          clear hK K
          try simp only [Act.put, List.getElem_toArray, List.getElem_cons_zero, List.getElem_cons_succ]
          refine wpAnyH_ready (rs := [7]) (by kernel_rfl) (by simp) ?_
          refine AllReadyH.cons rfl (fun K hK => ?_) AllReadyH.nil
          have JS51 := Lib.hid J50.out.swap
          rw [if_pos (by rfl)]
          refine wp_store_arr (.tmp 6) (.tmp 10) rfl g6 b rfl rfl (JS51.out.at_ (List.mem_cons_self ..)).1 ?_
          intro wn51 hst51
          have J51 := Lib.hid (JS51.out.store hst51)
          clear hst51
          refine hK.out _ _ (HC.out _ J51.out.1) (fun hHeld51 => ?_)
          clear hK K
          try simp only [Act.put, List.getElem_toArray, List.getElem_cons_zero, List.getElem_cons_succ]
          refine wpAnyH_done (by kernel_rfl) ?_ _
          go_wp2_with fail
          go_meet
          case rel => exact ⟨g5, g6, rfl, rfl, Lib.hid (J51.out.swap)⟩
        refine AllReadyH.cons rfl (fun K hK => ?bp52) ?cp52
        case bp52 =>
          rw [if_pos (by rfl)]
          refine wp_alloc_arr rfl ?_
          intro g5 wn52 hg52 hw52
          have J52 : Hid (RI X wn52 ((g5, zeroR) :: [(g6, zeroR)])) := Lib.hid (by rw [hg52, hw52]; exact J47.out.alloc _)
          clear hg52 hw52
          refine hK.out _ _ (HC.out _ J52.out.1) (fun hHeld52 => ?_)
          clear hK K
          try simp only [Act.put, List.getElem_toArray, List.getElem_cons_zero, List.getElem_cons_succ, List.setIfInBounds_toArray, List.set_cons_zero, List.set_cons_succ]
          refine wpAnyH_ready (rs := [3]) (by kernel_rfl) (by simp) ?_
          refine AllReadyH.cons rfl (fun K hK => ?_) AllReadyH.nil
          go_simp
          refine (HRB.out _).mono ?_
          rintro e wn53 ⟨rfl, hb53⟩
          have J53 := Lib.hid (J52.out.call hb53)
          clear hb53
          try go_wp2_with fail
          refine hK.out _ _ (HC.out _ J53.out.1) (fun hHeld53 => ?_)
          clear hK K
          try simp only [Act.put, List.getElem_toArray, List.getElem_cons_zero, List.getElem_cons_succ, List.setIfInBounds_toArray, List.set_cons_zero, List.set_cons_succ]
          refine wpAnyH_ready (rs := [6]) (by kernel_rfl) (by simp) ?_
          refine AllReadyH.cons rfl (fun K hK => ?_) AllReadyH.nil
          rw [if_pos (by rfl)]
          refine wp_store_arr (.tmp 5) (.tmp 8) rfl g5 a rfl rfl (J53.out.at_ (List.mem_cons_self ..)).1 ?_
          intro wn54 hst54
          have J54 := Lib.hid (J53.out.store hst54)
          clear hst54
          refine hK.out _ _ (HC.out _ J54.out.1) (fun hHeld54 => ?_)
          clear hK K
          try simp only [Act.put, List.getElem_toArray, List.getElem_cons_zero, List.getElem_cons_succ]
          refine wpAnyH_ready (rs := [7]) (by kernel_rfl) (by simp) ?_
          refine AllReadyH.cons rfl (fun K hK => ?_) AllReadyH.nil
          have JS55 := Lib.hid J54.out.swap
          rw [if_pos (by rfl)]
          refine wp_store_arr (.tmp 6) (.tmp 10) rfl g6 b rfl rfl (JS55.out.at_ (List.mem_cons_self ..)).1 ?_
          intro wn55 hst55
          have J55 := Lib.hid (JS55.out.store hst55)
          clear hst55
          refine hK.out _ _ (HC.out _ J55.out.1) (fun hHeld55 => ?_)
          clear hK K
          try simp only [Act.put, List.getElem_toArray, List.getElem_cons_zero, List.getElem_cons_succ]
          refine wpAnyH_done (by kernel_rfl) ?_ _
          go_wp2_with fail
          go_meet
          case rel => exact ⟨g5, g6, rfl, rfl, Lib.hid (J55.out.swap)⟩
        exact AllReadyH.nil
      refine AllReadyH.cons rfl (fun K hK => ?bp56) ?cp56
      case bp56 =>
        rw [if_pos (by rfl)]
        refine wp_alloc_arr rfl ?_
        intro g5 wn56 hg56 hw56
        have J56 : Hid (RI X wn56 ((g5, zeroR) :: [(g6, zeroR)])) := Lib.hid (by rw [hg56, hw56]; exact J46.out.alloc _)
        clear hg56 hw56
        refine hK.out _ _ (HC.out _ J56.out.1) (fun hHeld56 => ?_)
        clear hK K
        try simp only [Act.put, List.getElem_toArray, List.getElem_cons_zero, List.getElem_cons_succ, List.setIfInBounds_toArray, List.set_cons_zero, List.set_cons_succ]
        refine wpAnyH_ready (rs := [1]) (by kernel_rfl) (by simp) ?_
        refine AllReadyH.cons rfl (fun K hK => ?_) AllReadyH.nil
        go_simp
        refine (HRA.out _).mono ?_
        rintro e wn57 ⟨rfl, hb57⟩
        have J57 := Lib.hid (J56.out.call hb57)
        clear hb57
        try go_wp2_with fail
        refine hK.out _ _ (HC.out _ J57.out.1) (fun hHeld57 => ?_)
        clear hK K
        try simp only [Act.put, List.getElem_toArray, List.getElem_cons_zero, List.getElem_cons_succ, List.setIfInBounds_toArray, List.set_cons_zero, List.set_cons_succ]
        refine wpAnyH_ready (rs := [3]) (by kernel_rfl) (by simp) ?_
        refine AllReadyH.cons rfl (fun K hK => ?_) AllReadyH.nil
        go_simp
        refine (HRB.out _).mono ?_
        rintro e wn58 ⟨rfl, hb58⟩
        have J58 := Lib.hid (J57.out.call hb58)
        clear hb58
        try go_wp2_with fail
        refine hK.out _ _ (HC.out _ J58.out.1) (fun hHeld58 => ?_)
        clear hK K
        try simp only [Act.put, List.getElem_toArray, List.getElem_cons_zero, List.getElem_cons_succ, List.setIfInBounds_toArray, List.set_cons_zero, List.set_cons_succ]
        refine wpAnyH_ready (rs := [6]) (by kernel_rfl) (by simp) ?_
        refine AllReadyH.cons rfl (fun K hK => ?_) AllReadyH.nil
        rw [if_pos (by rfl)]
        refine wp_store_arr (.tmp 5) (.tmp 8) rfl g5 a rfl rfl (J58.out.at_ (List.mem_cons_self ..)).1 ?_
        intro wn59 hst59
        have J59 := Lib.hid (J58.out.store hst59)
        clear hst59
        refine hK.out _ _ (HC.out _ J59.out.1) (fun hHeld59 => ?_)
        clear hK K
        try simp only [Act.put, List.getElem_toArray, List.getElem_cons_zero, List.getElem_cons_succ]
        refine wpAnyH_ready (rs := [7]) (by kernel_rfl) (by simp) ?_
        refine AllReadyH.cons rfl (fun K hK => ?_) AllReadyH.nil
        have JS60 := Lib.hid J59.out.swap
        rw [if_pos (by rfl)]
        refine wp_store_arr (.tmp 6) (.tmp 10) rfl g6 b rfl rfl (JS60.out.at_ (List.mem_cons_self ..)).1 ?_
        intro wn60 hst60
        have J60 := Lib.hid (JS60.out.store hst60)
        clear hst60
        refine hK.out _ _ (HC.out _ J60.out.1) (fun hHeld60 => ?_)
        clear hK K
        try simp only [Act.put, List.getElem_toArray, List.getElem_cons_zero, List.getElem_cons_succ]
        refine wpAnyH_done (by kernel_rfl) ?_ _
        go_wp2_with fail
        go_meet
        case rel => exact ⟨g5, g6, rfl, rfl, Lib.hid (J60.out.swap)⟩
      exact AllReadyH.nil
    exact AllReadyH.nil
  case rest =>
    obtain ⟨g5, g6, rfl, rfl, J⟩ := hcut
    have h5 := (J.out.at_ (g := g5) (List.mem_cons_self ..)).1
    have h6 := (J.out.at_ (g := g6) (List.mem_cons_of_mem _ (List.mem_cons_self ..))).1
    have HCM2 := Lib.hid (HCM.out wc.drew g5 g6 h5 h6)
    have HAC : Hid (Aft w wc.drew) := Lib.hid ((HA.out.trans J.out.1).drew 1)
    clear h5 h6 HCM J HC HRA HRB
    go_upto_region 2 with fail
    refine wp_region_held_drew (S := fun _ => True) (by kernel_rfl) trivial (fun hHeld0 => ?_)
    refine wpAnyH_take (i := 0) (v := ?_) rfl (by kernel_rfl) (by kernel_rfl) (by kernel_rfl) (fun _ _ _ h => h) (Or.inl ⟨by rfl, ?yc0⟩) (by assumption) ?qc0
    case yc0 => (intro wz hSw; (try dsimp only at hSw); go_simp <;> with_reducible rfl)
    try simp only [Act.put, List.getElem_toArray, List.getElem_cons_zero, List.setIfInBounds_toArray, List.set_cons_zero, List.set_cons_succ]
    refine wpAnyH_take (i := 1) (v := ?_) rfl (by kernel_rfl) (by kernel_rfl) (by kernel_rfl) (fun _ _ _ h => h) (Or.inl ⟨by rfl, ?yc1⟩) (by assumption) ?qc1
    case yc1 => (intro wz hSw; (try dsimp only at hSw); go_simp <;> with_reducible rfl)
    try simp only [Act.put, List.getElem_toArray, List.getElem_cons_zero, List.getElem_cons_succ, List.setIfInBounds_toArray, List.set_cons_zero, List.set_cons_succ]
    refine wpAnyH_ready (rs := [2]) (by kernel_rfl) (by simp) ?_
    refine AllReadyH.cons rfl (fun K hK => ?_) AllReadyH.nil
    go_simp
    refine HCM2.out.mono ?_
    rintro e w6 ⟨rfl, ha⟩
    have HA6 := Lib.hid (HAC.out.trans ha)
    clear ha HCM2
    try go_wp2_with fail
    refine hK.out _ _ trivial (fun hHeld1 => ?_)
    clear hK K
    try simp only [Act.put, List.getElem_toArray, List.getElem_cons_zero, List.getElem_cons_succ, List.setIfInBounds_toArray, List.set_cons_zero, List.set_cons_succ]
    refine wpAnyH_take (i := 3) (v := ?_) rfl (by kernel_rfl) (by kernel_rfl) (by kernel_rfl) (fun _ _ _ h => h) (Or.inl ⟨by rfl, ?yc3⟩) (by assumption) ?qc3
    case yc3 => (intro wz hSw; (try dsimp only at hSw); go_simp <;> with_reducible rfl)
    try simp only [Act.put, List.getElem_toArray, List.getElem_cons_zero, List.getElem_cons_succ, List.setIfInBounds_toArray, List.set_cons_zero, List.set_cons_succ]
    refine wpAnyH_take (i := 4) (v := ?_) rfl (by kernel_rfl) (by kernel_rfl) (by kernel_rfl) (fun _ _ _ h => h) (Or.inl ⟨by rfl, ?yc4⟩) (by assumption) ?qc4
    case yc4 => (intro wz hSw; (try dsimp only at hSw); go_simp <;> with_reducible rfl)
    try simp only [Act.put, List.getElem_toArray, List.getElem_cons_zero, List.getElem_cons_succ, List.setIfInBounds_toArray, List.set_cons_zero, List.set_cons_succ]
    refine wpAnyH_done (by kernel_rfl) ?_ _
    clear hHeld0 hHeld1
    go_wp2_with fail
    go_ret
    exact ⟨ret_bool HL.out, HA6.out⟩
end Go.Proofs.Ytiiipnfkkdfgbaa.Off
