/-
  Contracts that RowPlays calls in a round: does, whatever the deed; Same, whatever the lengths. Not a statement of the seat.
-/
import Derived.Test.YtoakpmbiplmpbaaDoorPlay3
namespace Go.Proofs.YtoakpmbiplmpbaaDoor.Bits
open Go.ChangeShapes Go.WideShapes Go.ChangeAt Go.RowKit Base Go.Shelf
theorem does_any (b g n V bo go no O : Nat) (v u : Value) (K : Int) (other : Bool) (I : Int) (on : Bool) (w : World) (h : RowAt w b g n V) (ho : RowAt w bo go no O) (hx : Ints 0 w v (intsOf n V)) (hy : Ints 0 w u (intsOf no O)) (hne : go ≠ g) :
    Calls Tryd.prog 11 #[.pointer (some ⟨b, 0, none⟩), .pointer (some ⟨bo, 0, none⟩), v, u, .agg #[.int .i64 K, .bool other, .int .i64 I, .bool on]] w (DoesPost b g n w) := by
  have hK : ∀ z : Int, K ≠ z → (K == z) = false := fun z hz => by rw [beq_eq_false_iff_ne]; exact hz
  by_cases k0 : K = 0
  · subst k0; exact does_0 b g n V bo go no O v u other I on w h ho hx hy
  by_cases k1 : K = 1
  · subst k1; exact does_1 b g n V bo go no O v u other I on w h ho hx hy
  by_cases k2 : K = 2
  · subst k2; exact does_2 b g n V bo go no O v u other I on w h ho hx hy hne
  by_cases k3 : K = 3
  · subst k3; exact does_3 b g n V bo go no O v u other I on w h ho hx hy hne
  by_cases k4 : K = 4
  · subst k4; exact does_4 b g n V bo go no O v u other I on w h ho hx hy hne
  by_cases k5 : K = 5
  · subst k5; exact does_5 b g n V bo go no O v u other I on w h ho hx hy
  by_cases k6 : K = 6
  · subst k6
    cases on
    · exact does_6f b g n V bo go no O v u other I w h ho hx hy
    · exact does_6t b g n V bo go no O v u other I w h ho hx hy
  exact does_7 b g n V bo go no O v u other K I on w h ho hx hy (hK 0 k0) (hK 1 k1) (hK 2 k2) (hK 3 k3) (hK 4 k4) (hK 5 k5) (hK 6 k6)
set_option maxHeartbeats 1000000 in
theorem same_diff (b g V b' g' W n m : Nat) (w : World) (h : RowAt w b g n V) (h' : RowAt w b' g' m W) (hne : n ≠ m) : Calls Tryd.prog 14 #[.pointer (some ⟨b, 0, none⟩), .pointer (some ⟨b', 0, none⟩)] w fun e w' => e = .returned (.bool false) ∧ ∃ q, w' = w.drewN q := by
  obtain ⟨h0, h1⟩ := h.head
  obtain ⟨k0, k1⟩ := h'.head
  have hb : ((n : Int) == (m : Int)) = false := by rw [beq_eq_false_iff_ne]; omega
  clear h h'
  by_cases hz : n = 0
  · subst hz
    have hm : ((m : Int) == 0) = false := by rw [beq_eq_false_iff_ne]; omega
    have hm2 : ((0 : Int) == (m : Int)) = false := by rw [beq_eq_false_iff_ne]; omega
    clear hb hne
    go_enter Tryd.func14, Tryd.ntmps14
    go_wp2
    go_ret
    exact ⟨ret_bool (by first | rfl | assumption | (simp; omega)), 0, rfl⟩
  · have hn : ((n : Int) == 0) = false := by rw [beq_eq_false_iff_ne]; omega
    by_cases hz2 : m = 0
    · subst hz2
      clear hb hne hz
      go_enter Tryd.func14, Tryd.ntmps14
      go_wp2
      go_ret
      exact ⟨ret_bool (by first | rfl | assumption | (simp; omega)), 0, rfl⟩
    · have hm : ((m : Int) == 0) = false := by rw [beq_eq_false_iff_ne]; omega
      clear hne hz hz2
      go_enter Tryd.func14, Tryd.ntmps14
      go_wp2
      go_quiet (fail)
      go_wp2
      go_ret
      exact ⟨rfl, _, rfl⟩
/-- Are two rows one, by their lengths and their places? -/
def sameR (n V m W : Nat) : Bool := if n = m then decide (intsOf n V = intsOf m W) else false
theorem same_two (b g V b' g' W n m : Nat) (w : World) (h : RowAt w b g n V) (h' : RowAt w b' g' m W) : Calls Tryd.prog 14 #[.pointer (some ⟨b, 0, none⟩), .pointer (some ⟨b', 0, none⟩)] w fun e w' => e = .returned (.bool (sameR n V m W)) ∧ Below w.heap.size w w' := by
  unfold sameR
  by_cases e : n = m
  · subst e
    rw [if_pos rfl, intsOf_ne h.2.2.2 h'.2.2.2]
    exact (same_any b g V b' g' W n w h h').mono fun _ _ ⟨he, q, hq⟩ => ⟨he, by rw [hq]; exact below_drewN (Below.refl _ _) q⟩
  · rw [if_neg e]
    exact (same_diff b g V b' g' W n m w h h' e).mono fun _ _ ⟨he, q, hq⟩ => ⟨he, by rw [hq]; exact below_drewN (Below.refl _ _) q⟩
end Go.Proofs.YtoakpmbiplmpbaaDoor.Bits
