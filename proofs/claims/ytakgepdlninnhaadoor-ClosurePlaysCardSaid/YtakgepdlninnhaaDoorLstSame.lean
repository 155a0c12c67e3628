/-
  Contract of the document's SameInts. Not a statement of the seat.
-/
import Derived.Test.YtakgepdlninnhaaDoorLst
import Derived.Deep.LoopGhost
import Derived.BigQuiet
namespace Go.Proofs.YtakgepdlninnhaaDoor.Lst
open Go.ChangeShapes Go.WideShapes Go.ChangeAt Go.RowKit Base
theorem lists_ext {xs ys : List Int} (hl : xs.length = ys.length) (h : ∀ j, j < xs.length → xs.getD j 0 = ys.getD j 0) : xs = ys := by
  apply List.ext_getElem hl
  intro i h1 h2
  have := h i h1
  simpa [h1, h2] using this
set_option maxHeartbeats 1000000 in
theorem sameInts_any (g o c g' o' c' : Nat) (xs ys : List Int) (w : World) (hx : ∀ k, k < xs.length → w.cell? ⟨g, o + k, none⟩ = some (.int .i64 (xs.getD k 0))) (hy : ∀ k, k < ys.length → w.cell? ⟨g', o' + k, none⟩ = some (.int .i64 (ys.getD k 0))) (hl : xs.length ≤ 9223372036854775807) (_ : ys.length ≤ 9223372036854775807) :
    Calls Tryd.prog 16 #[.slice (some ⟨g, o, none⟩) xs.length c, .slice (some ⟨g', o', none⟩) ys.length c'] w fun e w' => e = .returned (.bool (decide (xs = ys))) ∧ ∃ q, w' = w.drewN q := by
  have HX := Lib.hid hx
  have HY := Lib.hid hy
  clear hx hy
  by_cases hn : xs.length = ys.length
  · have HEQ : Hid ((∀ j, j < xs.length → xs.getD j 0 = ys.getD j 0) → decide (xs = ys) = true) := Lib.hid fun h => decide_eq_true (lists_ext hn h)
    have HNE : Hid (∀ j, xs.getD j 0 ≠ ys.getD j 0 → decide (xs = ys) = false) := Lib.hid fun j h => decide_eq_false (fun e => h (by rw [e]))
    have hb : ((xs.length : Int) != (ys.length : Int)) = false := by rw [bne_eq_false_iff_eq]; omega
    have HN := Lib.hid hn
    clear hn
    generalize decide (xs = ys) = r at HEQ HNE ⊢
    go_enter Tryd.func16, Tryd.ntmps16
    go_wp2
    go_loopg [13] xs.length (fun gg s13 wr => ∃ k q : Nat, k ≤ xs.length ∧ xs.length - k ≤ gg ∧ s13 = .int .i64 k ∧ wr = w.drewN q ∧ Hid (∀ j, j < k → xs.getD j 0 = ys.getD j 0))
    case atStart => exact ⟨0, 0, Nat.zero_le _, by omega, rfl, rfl, Lib.hid (fun j hj => absurd hj (by omega))⟩
    case round =>
      obtain ⟨k, q, hk, hg, rfl, rfl, HK⟩ := hrel
      by_cases hlt : k < xs.length
      · have h1 := HX.out k hlt
        have h2 := HY.out k (by rw [← HN.out]; exact hlt)
        have hlt' : k < ys.length := by rw [← HN.out]; exact hlt
        have HKK : Hid (xs.getD k 0 = ys.getD k 0 → ∀ j, j < k + 1 → xs.getD j 0 = ys.getD j 0) := Lib.hid fun h j hj => by
          by_cases e : j = k
          · rw [e]; exact h
          · exact HK.out j (by omega)
        have HNK := Lib.hid (HNE.out k)
        generalize xs.getD k 0 = x at h1 HKK HNK
        generalize ys.getD k 0 = y at h2 HKK HNK
        by_cases hxy : x = y
        · have hd : (x != y) = false := by rw [bne_eq_false_iff_eq]; exact hxy
          have HK2 := Lib.hid (HKK.out hxy)
          clear hxy HKK HNK HK
          go_wp2_with fail
          go_quiet (fail)
          go_wp2
          go_roundg (xs.length - (k + 1))
          case measure => omega
          case rel => exact ⟨k + 1, q + nq, by omega, Nat.le_refl _, by go_num, rfl, HK2⟩
        · have hd : (x != y) = true := by rw [bne_iff_ne]; exact hxy
          have HF := Lib.hid (HNK.out hxy)
          clear hxy HKK HNK HK
          go_wp2_with fail
          go_quiet (fail)
          go_wp2
          go_ret
          exact ⟨ret_bool HF.out.symm, q + nq, World.drewN_drewN _ _ _⟩
      · have HT := Lib.hid (HEQ.out fun j hj => HK.out j (by omega))
        clear HK HEQ HNE
        go_wp2
        go_ret
        exact ⟨ret_bool HT.out.symm, _, rfl⟩
  · have HF : Hid (decide (xs = ys) = false) := Lib.hid (decide_eq_false (fun e => hn (by rw [e])))
    have hb : ((xs.length : Int) != (ys.length : Int)) = true := by rw [bne_iff_ne]; omega
    clear hn
    generalize decide (xs = ys) = r at HF ⊢
    go_enter Tryd.func16, Tryd.ntmps16
    go_wp2
    go_ret
    exact ⟨ret_bool HF.out.symm, 0, rfl⟩
theorem same_ne (p p' : Option Addr) (m m' c c' : Nat) (w : World) (hne : m ≠ m') :
    Calls Tryd.prog 16 #[.slice p m c, .slice p' m' c'] w fun e w' => e = .returned (.bool false) ∧ w' = w := by
  have hb : ((m : Int) != (m' : Int)) = true := by rw [bne_iff_ne]; omega
  clear hne
  go_enter Tryd.func16, Tryd.ntmps16
  go_wp2
  go_ret
  exact ⟨rfl, rfl⟩
theorem same_zero (p p' : Option Addr) (c c' : Nat) (w : World) :
    Calls Tryd.prog 16 #[.slice p 0 c, .slice p' 0 c'] w fun e w' => e = .returned (.bool true) ∧ w' = w := by
  go_enter Tryd.func16, Tryd.ntmps16
  go_wp2_with fail
  refine wp_loop_rounds 1 ?_
  rw [rounds_succ]
  go_wp2
  go_ret
  exact ⟨rfl, rfl⟩
theorem sameInts_ints {b1 b2 : Nat} {v u : Value} {xs ys : List Int} {w : World} (hx : Ints b1 w v xs) (hy : Ints b2 w u ys) :
    Calls Tryd.prog 16 #[v, u] w fun e w' => e = .returned (.bool (decide (xs = ys))) ∧ ∃ q, w' = w.drewN q := by
  rcases hx with ⟨⟨p, c, rfl⟩, rfl⟩ | ⟨g, o, c, rfl, _, _, h3, h4⟩ <;> rcases hy with ⟨⟨p', c', rfl⟩, rfl⟩ | ⟨g', o', c', rfl, _, _, h3', h4'⟩
  · exact (same_zero _ _ _ _ w).mono fun e w' h => ⟨by rw [h.1]; rfl, 0, h.2⟩
  · by_cases hz : ys.length = 0
    · have : ys = [] := List.length_eq_zero_iff.1 hz
      subst this
      exact (same_zero _ _ _ _ w).mono fun e w' h => ⟨by rw [h.1]; rfl, 0, h.2⟩
    · refine (same_ne _ _ _ _ _ _ w (fun e => hz e.symm)).mono fun e w' h => ⟨?_, 0, h.2⟩
      rw [h.1, decide_eq_false (fun e => hz (by rw [← e]; rfl))]
  · by_cases hz : xs.length = 0
    · have : xs = [] := List.length_eq_zero_iff.1 hz
      subst this
      exact (same_zero _ _ _ _ w).mono fun e w' h => ⟨by rw [h.1]; rfl, 0, h.2⟩
    · refine (same_ne _ _ _ _ _ _ w hz).mono fun e w' h => ⟨?_, 0, h.2⟩
      rw [h.1, decide_eq_false (fun e => hz (by rw [e]; rfl))]
  · exact sameInts_any g o c g' o' c' xs ys w h4 h4' h3 h3'
/-- What SameInts leaves. -/
def BoolDrew (r : Bool) (w : World) (e : Ending) (w' : World) : Prop := e = .returned (.bool r) ∧ ∃ q, w' = w.drewN q
theorem sameInts_yes {b1 b2 : Nat} {v u : Value} {xs : List Int} {w : World} (hx : Ints b1 w v xs) (hy : Ints b2 w u xs) : Calls Tryd.prog 16 #[v, u] w (BoolDrew true w) :=
  (sameInts_ints hx hy).mono fun _ _ ⟨h1, h2⟩ => ⟨by rw [h1]; simp, h2⟩
end Go.Proofs.YtakgepdlninnhaaDoor.Lst
