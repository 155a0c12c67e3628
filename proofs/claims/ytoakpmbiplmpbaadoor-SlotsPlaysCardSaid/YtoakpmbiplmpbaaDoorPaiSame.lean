/-
  Contract of the document's Same of lists of pairs. Not a statement of the seat.
-/
import Derived.Test.YtoakpmbiplmpbaaDoorFPai
import Derived.Test.YtoakpmbiplmpbaaDoorQPai
import Derived.Deep.QuietTactic
import Derived.BigQuiet
namespace Go.Proofs.YtoakpmbiplmpbaaDoor.F
open Go.ChangeShapes Go.WideShapes Go.ChangeAt Go.RowKit Base
/-- Are two lists of pairs one? -/
def sameL (a b : List Pai) : Bool := decide (a.length = b.length) && (List.range a.length).all fun k => Pai.beq (a.getD k Pai.zero) (b.getD k Pai.zero)
theorem sameL_iff (a b : List Pai) : sameL a b = true ↔ a = b := by
  unfold sameL
  rw [Bool.and_eq_true, decide_eq_true_eq, List.all_eq_true]
  constructor
  · rintro ⟨h1, h2⟩
    apply List.ext_getElem h1
    intro k ha hb
    have := (Pai.beq_iff _ _).1 (h2 k (List.mem_range.2 ha))
    simpa [List.getD_eq_getElem?_getD, ha, hb] using this
  · rintro rfl
    exact ⟨rfl, fun k _ => Pai.beq_self _⟩
/-- What a call that tells a bool, and draws, leaves. -/
def BoolDrew (is : Bool) (w : World) (e : Ending) (w' : World) : Prop := e = .returned (.bool is) ∧ ∃ n, w' = w.drewN n
set_option maxRecDepth 100000 in
set_option maxHeartbeats 2000000 in
theorem same_ref {ba bb : Nat} (v u : Value) (a b : List Pai) (w : World) (ha : Pais ba w v a) (hb : Pais bb w u b) (hl : a.length ≤ 100000) : Calls Tryd.prog 39 #[v, u] w (BoolDrew (sameL a b) w) := by
  obtain ⟨p, c, rfl, _, hca⟩ := ha.open_
  obtain ⟨q, d, rfl, hlb, hcb⟩ := hb.open_
  clear ha hb
  by_cases hne : a.length = b.length
  · have HA := Lib.hid hca
    have HBB := Lib.hid hcb
    have HN : Hid (∀ k, k < a.length → Pai.beq (a.getD k Pai.zero) (b.getD k Pai.zero) = false → sameL a b = false) := Lib.hid fun k hk h => by
      rw [Bool.eq_false_iff]
      intro h2
      rw [(sameL_iff a b).1 h2, Pai.beq_self] at h
      cases h
    have HY : Hid ((∀ k, k < a.length → Pai.beq (a.getD k Pai.zero) (b.getD k Pai.zero) = true) → sameL a b = true) := Lib.hid fun h => by
      unfold sameL
      rw [Bool.and_eq_true, decide_eq_true_eq, List.all_eq_true]
      exact ⟨hne, fun k hk => h k (List.mem_range.1 hk)⟩
    have HE := Lib.hid hne
    rw [← hne] at hcb ⊢
    generalize sameL a b = r at HN HY ⊢
    clear hca hcb hne
    go_enter Tryd.func39, Tryd.ntmps39
    go_wp2_with fail
    go_loopw [5, 13] (fun _ s13 wr => ∃ k q : Nat, s13 = .int .i64 (k : Int) ∧ k ≤ a.length ∧ Hid (∀ j, j < k → Pai.beq (a.getD j Pai.zero) (b.getD j Pai.zero) = true) ∧ wr = w.drewN q) (fun _ s13 _ => a.length - (intOf s13).toNat)
    case atStart => exact ⟨0, 0, rfl, Nat.zero_le _, Lib.hid (fun j hj => absurd hj (by omega)), rfl⟩
    case round =>
      obtain ⟨k, nq, rfl, hk, HF, rfl⟩ := hrel
      by_cases hlt : k < a.length
      · obtain ⟨g1, o1, rfl, _, _, c0, c1⟩ := HA.out k hlt
        obtain ⟨g2, o2, rfl, _, _, d0, d1⟩ := HBB.out k (by rw [← HE.out]; exact hlt)
        have hn := HN.out k hlt
        have HF2 : Hid (Pai.beq (a.getD k Pai.zero) (b.getD k Pai.zero) = true → ∀ j, j < k + 1 → Pai.beq (a.getD j Pai.zero) (b.getD j Pai.zero) = true) := Lib.hid fun h j hj => by
          by_cases e : j = k
          · subst e; exact h
          · exact HF.out j (by omega)
        generalize a.getD k Pai.zero = x at c0 c1 hn HF2
        generalize b.getD k Pai.zero = y at d0 d1 hn HF2
        have hq := ne_pai x y
        cases hb : Pai.beq x y
        · have hr := hn hb
          subst hr
          rw [hb] at hq
          clear hn HN HY HF HF2 hb
          go_wp2_with fail
          go_quiet (fail)
          go_wp2
          go_ret
          exact ⟨rfl, _, by rw [World.drewN_drewN]⟩
        · rw [hb] at hq
          have HF3 := Lib.hid (HF2.out hb)
          clear hn hb HF HF2
          go_wp2_with fail
          go_quiet (fail)
          go_wp2
          go_roundw
          case rel => exact ⟨k + 1, _, by go_num, by omega, HF3, rfl⟩
          case measure => simp [intOf]; omega
      · have e : k = a.length := by omega
        subst e
        have hr := HY.out HF.out
        subst hr
        clear HN HY HF HA HBB
        go_wp2
        go_ret
        exact ⟨rfl, _, rfl⟩
  · have hr : sameL a b = false := by
      unfold sameL
      rw [decide_eq_false hne]; rfl
    have hne2 : ((a.length : Int) != (b.length : Int)) = true := by rw [bne_iff_ne]; omega
    rw [hr]
    clear hr hca hcb
    go_enter Tryd.func39, Tryd.ntmps39
    go_wp2
    go_ret
    exact ⟨rfl, 0, rfl⟩
end Go.Proofs.YtoakpmbiplmpbaaDoor.F
