/-
  Walks: contracts of slices.Equal and Same. Not a statement of the seat.
-/
import Derived.Test.YtjknnbeemcpppaaDoorWk1
import Derived.Deep.LoopGhost
namespace Go.Proofs.YtjknnbeemcpppaaDoor.Wk
open Go.ChangeShapes Go.WideShapes Go.ChangeAt Go.RowKit Base Go.Shelf Go.Lib Go.Sort Pk F
set_option maxHeartbeats 2000000 in
theorem eqE_any {v u : Value} {xs ys : List E} (w : World) (hx : Eds w v xs) (hy : Eds w u ys) :
    Calls Tryd.prog 26 #[v, u] w fun e w' => e = .returned (.bool (decide (xs = ys))) ∧ ∃ q, w' = w.drewN q := by
  obtain ⟨p, c, rfl, hl, hx⟩ := hx.open_
  obtain ⟨p', c', rfl, hl', hy⟩ := hy.open_
  have HX := Lib.hid hx
  have HY := Lib.hid hy
  clear hx hy
  by_cases hn : xs.length = ys.length
  · have HEQ : Hid ((∀ j, j < xs.length → xs.getD j zE = ys.getD j zE) → decide (xs = ys) = true) := Lib.hid fun h => decide_eq_true (edges_ext hn h)
    have HNE : Hid (∀ j, xs.getD j zE ≠ ys.getD j zE → decide (xs = ys) = false) := Lib.hid fun j h => decide_eq_false (fun e => h (by rw [e]))
    have hb : ((xs.length : Int) != (ys.length : Int)) = false := by rw [bne_eq_false_iff_eq]; omega
    have HN := Lib.hid hn
    clear hn
    generalize decide (xs = ys) = r at HEQ HNE ⊢
    go_enter Tryd.func26, Tryd.ntmps26
    go_wp2
    go_loopg [13] xs.length (fun gg s13 wr => ∃ k q : Nat, k ≤ xs.length ∧ xs.length - k ≤ gg ∧ s13 = .int .i64 k ∧ wr = w.drewN q ∧ Hid (∀ j, j < k → xs.getD j zE = ys.getD j zE))
    case atStart => exact ⟨0, 0, Nat.zero_le _, by omega, rfl, rfl, Lib.hid (fun j hj => absurd hj (by omega))⟩
    case round =>
      obtain ⟨k, q, hk, hg, rfl, rfl, HK⟩ := hrel
      by_cases hlt : k < xs.length
      · obtain ⟨g1, o1, rfl, _, a0, a1, a2, a3⟩ := HX.out k hlt
        obtain ⟨g2, o2, rfl, _, b0, b1, b2, b3⟩ := HY.out k (by rw [← HN.out]; exact hlt)
        have hlt' : k < ys.length := by rw [← HN.out]; exact hlt
        have HKK : Hid (xs.getD k zE = ys.getD k zE → ∀ j, j < k + 1 → xs.getD j zE = ys.getD j zE) := Lib.hid fun h j hj => by
          by_cases e : j = k
          · rw [e]; exact h
          · exact HK.out j (by omega)
        have HNK := Lib.hid (HNE.out k)
        generalize xs.getD k zE = x at a0 a1 a2 a3 HKK HNK
        generalize ys.getD k zE = y at b0 b1 b2 b3 HKK HNK
        have hq := neE x y
        by_cases hxy : x = y
        · rw [decide_eq_true hxy] at hq
          have HK2 := Lib.hid (HKK.out hxy)
          clear hxy HKK HNK HK
          go_wp2_with fail
          go_quiet (fail)
          go_wp2
          go_roundg (xs.length - (k + 1))
          case measure => omega
          case rel => exact ⟨k + 1, q + nq, by omega, Nat.le_refl _, by go_num, rfl, HK2⟩
        · rw [decide_eq_false hxy] at hq
          have HF := Lib.hid (HNK.out hxy)
          clear hxy HKK HNK HK
          go_wp2_with fail
          go_quiet (fail)
          go_wp2
          go_ret
          exact ⟨ret_bool HF.out.symm, q + nq, World.drewN_drewN _ _ _⟩
      · have HT := Lib.hid (HEQ.out fun j hj => HK.out j (by omega))
        clear HK HEQ HNE
        go_wp2
        go_ret
        exact ⟨ret_bool HT.out.symm, _, rfl⟩
  · have HF : Hid (decide (xs = ys) = false) := Lib.hid (decide_eq_false (fun e => hn (by rw [e])))
    have hb : ((xs.length : Int) != (ys.length : Int)) = true := by rw [bne_iff_ne]; omega
    clear hn
    generalize decide (xs = ys) = r at HF ⊢
    go_enter Tryd.func26, Tryd.ntmps26
    go_wp2
    go_ret
    exact ⟨ret_bool HF.out.symm, 0, rfl⟩
theorem same_wk {v u : Value} {xs ys : List E} (w : World) (hx : Eds w v xs) (hy : Eds w u ys) :
    Calls Tryd.prog 14 #[v, u] w (BoolP (decide (xs = ys)) w) := by
  have H := Lib.hid (eqE_any w hx hy)
  have hf : ∀ u : Value, True := fun _ => True.intro
  clear hx hy
  generalize decide (xs = ys) = r at H ⊢
  go_enter Tryd.func14, Tryd.ntmps14
  go_wp2_with fail
  refine H.out.mono ?_
  rintro e w1 ⟨rfl, q, rfl⟩
  clear H
  go_wp2
  go_ret
  exact ⟨rfl, below_drewN (Below.refl _ _) _⟩
theorem rsame_wk {v u : Value} {xs ys : List E} (w : World) (hx : Eds w v xs) (hy : Eds w u ys) :
    Calls Tryd.prog 15 #[v, u] w (BoolP (decide (xs = ys)) w) :=
  (sameE_any w hx hy).mono fun e w' ⟨h, q, hq⟩ => ⟨h, by rw [hq]; exact below_drewN (Below.refl _ _) _⟩
end Go.Proofs.YtjknnbeemcpppaaDoor.Wk
