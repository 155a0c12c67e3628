/-
  Walks: contract of the document's Less. Not a statement of the seat.
-/
import Derived.Test.YtjknnbeemcpppaaDoorWk5
import Derived.Deep.RegionHeld3
namespace Go.Proofs.YtjknnbeemcpppaaDoor.Wk
open Go.ChangeShapes Go.WideShapes Go.ChangeAt Go.RowKit Base Pk F
set_option maxRecDepth 100000 in
set_option maxHeartbeats 8000000 in
theorem rless_any {va vb : Value} {xs ys : List E} (w : World) (hx : Eds w va xs) (hy : Eds w vb ys) (hl1 : xs.length ≤ 1000) (_hl2 : ys.length ≤ 1000) :
    Calls Tryd.prog 13 #[va, vb] w (BoolP (lessW xs ys) w) := by
  obtain ⟨n, h1⟩ : ∃ n, xs.length = n := ⟨_, rfl⟩
  obtain ⟨m, h2⟩ : ∃ n, ys.length = n := ⟨_, rfl⟩
  obtain ⟨p1, c1, rfl, hA⟩ := eds_at hx h1
  obtain ⟨p2, c2, rfl, hB⟩ := eds_at hy h2
  have HA := Lib.hid hA
  have HB := Lib.hid hB
  have HL : Hid (lessW xs ys = if n = m then lexB ltE xs ys else decide (n < m)) := Lib.hid (by rw [← h1, ← h2]; rfl)
  by_cases h : n = m
  · subst h
    have hr : lessW xs ys = lexB ltE xs ys := by rw [HL.out, if_pos rfl]
    rw [hr]
    have HAT : Hid (∀ i, i < n → (∀ t, t < i → xs.getD t zE = ys.getD t zE) → xs.getD i zE ≠ ys.getD i zE → lexB ltE xs ys = ltE (xs.getD i zE) (ys.getD i zE)) := Lib.hid fun i hi hs hne => lex_at (h1.trans h2.symm) (by omega) hs hne
    have HEN : Hid ((∀ t, t < n → xs.getD t zE = ys.getD t zE) → lexB ltE xs ys = false) := Lib.hid fun hs => lex_end (h1.trans h2.symm) (fun t ht => hs t (by omega))
    have hni : (n : Int) ≤ 1000 := by omega
    clear hA hB hx hy h1 h2 hr HL hl1 _hl2
    generalize lexB ltE xs ys = r at HAT HEN ⊢
    go_enter Tryd.func13, Tryd.ntmps13
    go_wp2_with fail
    go_loopw [18] (fun s18 wr => ∃ i : Nat, s18 = .int .i64 (i : Int) ∧ i ≤ n ∧ Hid (Below w.heap.size w wr ∧ ∀ t, t < i → xs.getD t zE = ys.getD t zE)) (fun s18 _ => n - (intOf s18).toNat)
    case atStart => exact ⟨0, rfl, Nat.zero_le _, Lib.hid ⟨Below.refl _ _, fun t ht => absurd ht (Nat.not_lt_zero _)⟩⟩
    case round =>
      obtain ⟨i, rfl, hi, HI⟩ := hrel
      by_cases hlt : i < n
      · have hii : (i : Int) < (n : Int) := by omega
        obtain ⟨g, o, rfl, hcl⟩ := HA.out i hlt
        obtain ⟨g2, o2, rfl, hcl2⟩ := HB.out i hlt
        obtain ⟨hg, a0, a1, a2, a3⟩ := hcl wr HI.out.1
        obtain ⟨hg2, b0, b1, b2, b3⟩ := hcl2 wr HI.out.1
        have HS : Hid (∀ X, Below wr.heap.size wr X → (g < X.heap.size ∧ X.cell? ⟨g, o + i * 4, none⟩ = some (.int .i64 (xs.getD i zE).1) ∧ X.cell? ⟨g, o + i * 4 + 1, none⟩ = some (.int .i64 (xs.getD i zE).2.1) ∧ X.cell? ⟨g, o + i * 4 + 2, none⟩ = some (.int .i64 (xs.getD i zE).2.2.1) ∧ X.cell? ⟨g, o + i * 4 + 3, none⟩ = some (.int .i64 (xs.getD i zE).2.2.2)) ∧ (g2 < X.heap.size ∧ X.cell? ⟨g2, o2 + i * 4, none⟩ = some (.int .i64 (ys.getD i zE).1) ∧ X.cell? ⟨g2, o2 + i * 4 + 1, none⟩ = some (.int .i64 (ys.getD i zE).2.1) ∧ X.cell? ⟨g2, o2 + i * 4 + 2, none⟩ = some (.int .i64 (ys.getD i zE).2.2.1) ∧ X.cell? ⟨g2, o2 + i * 4 + 3, none⟩ = some (.int .i64 (ys.getD i zE).2.2.2))) := Lib.hid fun X hX => ⟨hcl X (HI.out.1.trans (hX.mono HI.out.1.size)), hcl2 X (HI.out.1.trans (hX.mono HI.out.1.size))⟩
        have HJ : Hid (Below w.heap.size w wr ∧ (xs.getD i zE = ys.getD i zE → ∀ t, t < i + 1 → xs.getD t zE = ys.getD t zE) ∧ (xs.getD i zE ≠ ys.getD i zE → r = ltE (xs.getD i zE) (ys.getD i zE))) := Lib.hid ⟨HI.out.1, fun hj t ht => by
          by_cases e : t = i
          · rw [e]; exact hj
          · exact HI.out.2 t (by omega), HAT.out i hlt HI.out.2⟩
        generalize xs.getD i zE = x at a0 a1 a2 a3 HJ HS
        generalize ys.getD i zE = y at b0 b1 b2 b3 HJ HS
        have hq := neE x y
        have HLE := Lib.hid (fun W => less_ref x y W)
        clear hcl hcl2 HI
        by_cases hxy : x = y
        · rw [decide_eq_true hxy] at hq
          have HN2 := Lib.hid (HJ.out.2.1 hxy)
          have HW := Lib.hid HJ.out.1
          clear hxy HJ HLE HS
          go_wp2_with fail
          go_quiet (fail)
          go_wp2
          go_roundw
          case rel => exact ⟨i + 1, by go_num, by omega, Lib.hid ⟨below_drewN HW.out _, HN2.out⟩⟩
          case measure => simp [intOf]; omega
        · rw [decide_eq_false hxy] at hq
          have hr : r = ltE x y := HJ.out.2.2 hxy
          subst hr
          have HW := Lib.hid HJ.out.1
          clear hxy HJ
          generalize ltE x y = r at HLE ⊢
          go_wp2_with fail
          go_quiet (fail)
          clear hq
          obtain ⟨x0, x1, x2, x3⟩ := x
          obtain ⟨y0, y1, y2, y3⟩ := y
          dsimp only at HS HLE
          clear a0 a1 a2 a3 b0 b1 b2 b3 hg hg2
          go_upto_region 7 with fail
          refine wp_region_held_drew (S := fun X => (g < X.heap.size ∧ X.cell? ⟨g, o + i * 4, none⟩ = some (.int .i64 x0) ∧ X.cell? ⟨g, o + i * 4 + 1, none⟩ = some (.int .i64 x1) ∧ X.cell? ⟨g, o + i * 4 + 2, none⟩ = some (.int .i64 x2) ∧ X.cell? ⟨g, o + i * 4 + 3, none⟩ = some (.int .i64 x3)) ∧ (g2 < X.heap.size ∧ X.cell? ⟨g2, o2 + i * 4, none⟩ = some (.int .i64 y0) ∧ X.cell? ⟨g2, o2 + i * 4 + 1, none⟩ = some (.int .i64 y1) ∧ X.cell? ⟨g2, o2 + i * 4 + 2, none⟩ = some (.int .i64 y2) ∧ X.cell? ⟨g2, o2 + i * 4 + 3, none⟩ = some (.int .i64 y3))) (by kernel_rfl) (HS.out _ (below_drewN (below_drewN (Below.refl _ _) _) 1)) (fun hHeld0 => ?_)
          refine wpAnyH_take (i := 0) (v := ?_) rfl (by kernel_rfl) (by kernel_rfl) (by kernel_rfl) (fun _ _ _ h => h) (Or.inl ⟨by rfl, ?yrl0⟩) (by assumption) ?qrl0
          case yrl0 => (intro wz hSw; (try dsimp only at hSw); go_simp <;> with_reducible rfl)
          try simp only [Act.put, List.getElem_toArray, List.getElem_cons_zero, List.setIfInBounds_toArray, List.set_cons_zero, List.set_cons_succ]
          refine wpAnyH_take (i := 1) (v := ?_) rfl (by kernel_rfl) (by kernel_rfl) (by kernel_rfl) (fun _ _ _ h => h) (Or.inl ⟨by rfl, ?yrl1⟩) (by assumption) ?qrl1
          case yrl1 => (intro wz hSw; (try dsimp only at hSw); go_simp <;> with_reducible rfl)
          try simp only [Act.put, List.getElem_toArray, List.getElem_cons_zero, List.getElem_cons_succ, List.setIfInBounds_toArray, List.set_cons_zero, List.set_cons_succ]
          refine wpAnyH_take (i := 2) (v := ?_) rfl (by kernel_rfl) (by kernel_rfl) (by kernel_rfl) (fun _ _ _ h => h) (Or.inl ⟨by rfl, ?yrl2⟩) (by assumption) ?qrl2
          case yrl2 => (intro wz hSw; (try dsimp only at hSw); go_simp <;> with_reducible rfl)
          try simp only [Act.put, List.getElem_toArray, List.getElem_cons_zero, List.getElem_cons_succ, List.setIfInBounds_toArray, List.set_cons_zero, List.set_cons_succ]
          refine wpAnyH_take (i := 3) (v := ?_) rfl (by kernel_rfl) (by kernel_rfl) (by kernel_rfl) (fun _ _ _ h => h) (Or.inl ⟨by rfl, ?yrl3⟩) (by assumption) ?qrl3
          case yrl3 => (intro wz hSw; (try dsimp only at hSw); go_simp <;> with_reducible rfl)
          try simp only [Act.put, List.getElem_toArray, List.getElem_cons_zero, List.getElem_cons_succ, List.setIfInBounds_toArray, List.set_cons_zero, List.set_cons_succ]
          refine wpAnyH_take (i := 4) (v := ?_) rfl (by kernel_rfl) (by kernel_rfl) (by kernel_rfl) (fun _ _ _ h => h) (Or.inl ⟨by rfl, ?yrl4⟩) (by assumption) ?qrl4
          case yrl4 => (intro wz hSw; (try dsimp only at hSw); go_simp <;> with_reducible rfl)
          try simp only [Act.put, List.getElem_toArray, List.getElem_cons_zero, List.getElem_cons_succ, List.setIfInBounds_toArray, List.set_cons_zero, List.set_cons_succ]
          refine wpAnyH_take (i := 5) (v := ?_) rfl (by kernel_rfl) (by kernel_rfl) (by kernel_rfl) (fun _ _ _ h => h) (Or.inl ⟨by rfl, ?yrl5⟩) (by assumption) ?qrl5
          case yrl5 => (intro wz hSw; (try dsimp only at hSw); go_simp <;> with_reducible rfl)
          try simp only [Act.put, List.getElem_toArray, List.getElem_cons_zero, List.getElem_cons_succ, List.setIfInBounds_toArray, List.set_cons_zero, List.set_cons_succ]
          refine wpAnyH_take (i := 6) (v := ?_) rfl (by kernel_rfl) (by kernel_rfl) (by kernel_rfl) (fun _ _ _ h => h) (Or.inl ⟨by rfl, ?yrl6⟩) (by assumption) ?qrl6
          case yrl6 => (intro wz hSw; (try dsimp only at hSw); go_simp <;> with_reducible rfl)
          try simp only [Act.put, List.getElem_toArray, List.getElem_cons_zero, List.getElem_cons_succ, List.setIfInBounds_toArray, List.set_cons_zero, List.set_cons_succ]
          refine wpAnyH_take (i := 7) (v := ?_) rfl (by kernel_rfl) (by kernel_rfl) (by kernel_rfl) (fun _ _ _ h => h) (Or.inl ⟨by rfl, ?yrl7⟩) (by assumption) ?qrl7
          case yrl7 => (intro wz hSw; (try dsimp only at hSw); go_simp <;> with_reducible rfl)
          try simp only [Act.put, List.getElem_toArray, List.getElem_cons_zero, List.getElem_cons_succ, List.setIfInBounds_toArray, List.set_cons_zero, List.set_cons_succ]
          refine wpAnyH_ready (rs := [8]) (by kernel_rfl) (by simp) ?_
          refine AllReadyH.cons rfl (fun K hK => ?_) AllReadyH.nil
          go_simp
          refine (HLE.out _).mono ?_
          rintro e w5 ⟨rfl, hb5⟩
          have HB5 := Lib.hid hb5
          clear hb5
          refine hK.out _ _ (HS.out _ ((below_drewN (below_drewN (Below.refl _ _) _) 1).trans HB5.out)) (fun hHeldrl8 => ?_)
          clear hK K
          try simp only [Act.put, List.getElem_toArray, List.getElem_cons_zero, List.getElem_cons_succ, List.setIfInBounds_toArray, List.set_cons_zero, List.set_cons_succ]
          refine wpAnyH_take (i := 9) (v := ?_) rfl (by kernel_rfl) (by kernel_rfl) (by kernel_rfl) (fun _ _ _ h => h) (Or.inl ⟨by rfl, ?yrl9⟩) (by assumption) ?qrl9
          case yrl9 => (intro wz hSw; (try dsimp only at hSw); go_simp <;> with_reducible rfl)
          try simp only [Act.put, List.getElem_toArray, List.getElem_cons_zero, List.getElem_cons_succ, List.setIfInBounds_toArray, List.set_cons_zero, List.set_cons_succ]
          refine wpAnyH_done (by kernel_rfl) ?_ _
          have HF := Lib.hid (HW.out.trans (((below_drewN (below_drewN (Below.refl _ _) _) 1).trans HB5.out).mono HW.out.size))
          clear hHeldrl8 hHeld0 HS HLE
          go_wp2
          go_ret
          exact ⟨rfl, HF.out⟩
      · have hin : i = n := by omega
        subst hin
        have HR : Hid (r = false) := Lib.hid (HEN.out HI.out.2)
        have HW := Lib.hid HI.out.1
        have hii : ¬ (i : Int) < (i : Int) := by omega
        clear HI hlt HAT HEN
        go_wp2
        go_ret
        exact ⟨ret_bool HR.out.symm, HW.out⟩
  · have hb : ((n : Int) != (m : Int)) = true := by rw [bne_iff_ne]; omega
    have HR : Hid (decide ((n : Int) < (m : Int)) = lessW xs ys) := Lib.hid (by
      rw [HL.out, if_neg h, decide_eq_decide]; omega)
    generalize lessW xs ys = r at HR ⊢
    clear HL h hA hB hx hy h1 h2 hl1 _hl2
    go_enter Tryd.func13, Tryd.ntmps13
    go_wp2
    go_ret
    exact ⟨ret_bool (by have := HR.out; simpa using this), Below.refl _ _⟩
end Go.Proofs.YtjknnbeemcpppaaDoor.Wk
