/-
  Trees of sequences: their keys are 0; what the editor's level makes of them. Not a statement of the seat.
-/
import Derived.Test.YtbgepeokadmemaaPsLevel
import Derived.Test.YtbgepeokadmemaaPsTree
import Derived.Test.YtbgepeokadmemaaHead3
namespace Go.Proofs.Ytbgepeokadmemaa.F
open Go.ChangeShapes Go.WideShapes Go.ChangeAt Go.RowKit Base
/-- All keys are 0. -/
def K0 : Tre → Prop
  | .nil => True
  | .node l k _ r => k = 0 ∧ K0 l ∧ K0 r
theorem Tr.k0 {zs : List Cel} {t : Tre} {i : Int} (h : Tr zs t i) (hk : K0 t) : (celAt zs i).k = 0 ∧ (celAt zs (celAt zs i).l).k = 0 ∧ (celAt zs (celAt zs i).r).k = 0 := by
  have hz : (celAt zs 0).k = 0 := rfl
  have one : ∀ {t : Tre} {i : Int}, Tr zs t i → K0 t → (celAt zs i).k = 0 := fun {t i} h hk => by
    cases t with
    | nil => simp only [Tr] at h; subst h; rfl
    | node l k v r => obtain ⟨_, a, b, h2, _⟩ := h; rw [h2]; exact hk.1
  cases t with
  | nil => simp only [Tr] at h; subst h; exact ⟨rfl, rfl, rfl⟩
  | node l k v r =>
    obtain ⟨_, a, b, h2, h3, h4⟩ := h
    rw [h2]
    exact ⟨hk.1, one h3 hk.2.1, one h4 hk.2.2⟩
theorem putM_sh (room : Nat) (zs : List Cel) (why l r k v s h : Int) : putM room zs why ⟨l, r, k, v, s, h⟩ = putM room zs why ⟨l, r, k, v, 0, 0⟩ := rfl
theorem turnRS_eq {room : Nat} {zs : List Cel} {why left val right : Int} (hk : (celAt zs left).k = 0) (hm : (celAt zs (celAt zs left).r).k = 0) : turnRS room zs why (celAt zs left) val right = turnRM room zs why ⟨left, right, 0, val, 0, 0⟩ := by
  unfold turnRS turnRM
  simp only [hk, hm, putM_sh room _ _ _ _ _ _ (celAt zs left).s (celAt zs left).h, putM_sh room _ _ _ _ _ _ (celAt zs (celAt zs left).r).s (celAt zs (celAt zs left).r).h]
theorem turnRS_out {room : Nat} {zs : List Cel} {left val right : Int} {l r : Tre} (hz : zs.length ≤ room) (hl : Tr zs l left) (hr : Tr zs r right) (kl : K0 l) (h1 : l.size ≤ 1000000) (h2 : r.size ≤ 1000000) (hh : r.high + 1 < l.high) : Out room zs 3 (Tre.turnR l 0 val r) (turnRS room zs 0 (celAt zs left) val right) := by
  obtain ⟨k1, _, k3⟩ := hl.k0 kl
  rw [turnRS_eq k1 k3]
  exact turnR_out (c := ⟨left, right, 0, val, 0, 0⟩) hz hl hr h1 h2 hh
/-- The turn to the left, put in the program's own order. -/
theorem turnLS_out {room : Nat} {zs : List Cel} {left val right : Int} {l r : Tre} (hz : zs.length ≤ room) (hl : Tr zs l left) (hr : Tr zs r right) (kr : K0 r) (h1 : l.size ≤ 1000000) (h2 : r.size ≤ 1000000) (hh : l.high + 1 < r.high) : Out room zs 3 (Tre.turnL l 0 val r) (turnLS room zs 0 left val (celAt zs right)) := by
  cases r with
  | nil => simp [Tre.high] at hh
  | node rl rk rv rr =>
    obtain ⟨rfl, krl, krr⟩ := kr
    obtain ⟨hi, a, b, hc, ha, hb⟩ := hr
    unfold turnLS Tre.turnL
    rw [hc]
    simp only [Tre.size] at h2
    rw [hb.root.2, ha.root.2]
    by_cases hle : rl.high ≤ rr.high
    · rw [if_pos (by omega)]
      simp only [if_pos hle]
      by_cases q1 : zs.length < room
      · rw [putM_yes _ _ q1]
        simp only
        have t1 := put_tr (c := ⟨left, a, 0, val, 0, 0⟩) hl ha (by omega) (by omega)
        generalize sized zs ⟨left, a, 0, val, 0, 0⟩ = x1 at t1 ⊢
        have hs1 : (Tre.node l 0 val rl).size ≤ 2000000 := by simp only [Tre.size]; omega
        by_cases q2 : (zs ++ [x1]).length < room
        · rw [putM_yes _ _ q2]
          have t2 := put_tr (c := ⟨(zs.length : Int) + 1, b, 0, rv, 0, 0⟩) t1 (hb.append [x1]) hs1 (by omega)
          generalize sized (zs ++ [x1]) _ = x2 at t2 ⊢
          rw [List.append_assoc] at t2 ⊢
          exact .ok t2 (by simp)
        · rw [putM_no _ _ (show (zs ++ [x1]).length = room by simp at q2 ⊢; omega)]
          exact .full (by simp at q2 ⊢; omega) (by simp)
      · simp only [putM_no _ _ (show zs.length = room by omega)]
        exact .full0 (by omega) (by omega)
    · rw [if_neg (by omega)]
      simp only [if_neg hle]
      cases rl with
      | nil => simp [Tre.high] at hle
      | node m1 mk mv m2 =>
        obtain ⟨rfl, _, _⟩ := krl
        obtain ⟨hi2, a2, b2, hc2, ha2, hb2⟩ := ha
        simp only [hc2]
        simp only [Tre.size] at h2
        by_cases q1 : zs.length < room
        · simp only [putM_yes _ _ q1]
          have t1 := put_tr (c := ⟨left, a2, 0, val, 0, 0⟩) hl ha2 (by omega) (by omega)
          generalize sized zs _ = x1 at t1 ⊢
          by_cases q2 : (zs ++ [x1]).length < room
          · simp only [putM_yes _ _ q2]
            have t2 := put_tr (c := ⟨b2, b, 0, rv, 0, 0⟩) (hb2.append [x1]) (hb.append [x1]) (by omega) (by omega)
            generalize sized (zs ++ [x1]) _ = x2 at t2 ⊢
            by_cases q3 : (zs ++ [x1] ++ [x2]).length < room
            · simp only [putM_yes _ _ q3]
              have t3 := put_tr (c := ⟨(zs.length : Int) + 1, ((zs ++ [x1]).length : Int) + 1, 0, mv, 0, 0⟩) (t1.append [x2]) t2 (by simp only [Tre.size]; omega) (by simp only [Tre.size]; omega)
              generalize sized (zs ++ [x1] ++ [x2]) _ = x3 at t3 ⊢
              rw [List.append_assoc, List.append_assoc] at t3 ⊢
              exact .ok t3 (by simp)
            · simp only [putM_no _ _ (show (zs ++ [x1] ++ [x2]).length = room by simp at q2 q3 ⊢; omega)]
              rw [List.append_assoc]
              exact .full (by simp at q2 q3 ⊢; omega) (by simp)
          · simp only [putM_no _ _ (show (zs ++ [x1]).length = room by simp at q2 ⊢; omega)]
            exact .full (by simp at q2 ⊢; omega) (by simp)
        · simp only [putM_no _ _ (show zs.length = room by omega)]
          exact .full0 (by omega) (by omega)
theorem levelS_out {room : Nat} {zs : List Cel} {left val right : Int} {l r : Tre} (hz : zs.length ≤ room) (hl : Tr zs l left) (hr : Tr zs r right) (kl : K0 l) (kr : K0 r) (h1 : l.size ≤ 1000000) (h2 : r.size ≤ 1000000) : Out room zs 3 (Tre.lev l 0 val r) (levelS room zs 0 left val right) := by
  unfold levelS Tre.lev
  rw [hl.root.2, hr.root.2]
  by_cases q1 : r.high + 1 < l.high
  · rw [if_pos q1, if_pos (show (r.high : Int) + 1 < (l.high : Int) by omega)]
    exact turnRS_out hz hl hr kl h1 h2 q1
  · rw [if_neg q1, if_neg (show ¬ (r.high : Int) + 1 < (l.high : Int) by omega)]
    by_cases q2 : l.high + 1 < r.high
    · rw [if_pos q2, if_pos (show (l.high : Int) + 1 < (r.high : Int) by omega)]
      exact turnLS_out hz hl hr kr h1 h2 q2
    · rw [if_neg q2, if_neg (show ¬ (l.high : Int) + 1 < (r.high : Int) by omega)]
      exact put_out (c := ⟨left, right, 0, val, 0, 0⟩) hz hl hr (by omega) (by omega) (by omega)
theorem K0_turnR {l r : Tre} (v : Int) (hl : K0 l) (hr : K0 r) : K0 (Tre.turnR l 0 v r) := by
  cases l with
  | nil => exact ⟨rfl, trivial, hr⟩
  | node ll lk lv lr =>
    obtain ⟨rfl, h1, h2⟩ := hl
    unfold Tre.turnR
    dsimp only
    split
    · exact ⟨rfl, h1, rfl, h2, hr⟩
    · cases lr with
      | nil => exact ⟨rfl, ⟨rfl, h1, trivial⟩, hr⟩
      | node m1 mk mv m2 =>
        obtain ⟨rfl, h3, h4⟩ := h2
        exact ⟨rfl, ⟨rfl, h1, h3⟩, rfl, h4, hr⟩
theorem K0_turnL {l r : Tre} (v : Int) (hl : K0 l) (hr : K0 r) : K0 (Tre.turnL l 0 v r) := by
  cases r with
  | nil => exact ⟨rfl, hl, trivial⟩
  | node rl rk rv rr =>
    obtain ⟨rfl, h1, h2⟩ := hr
    unfold Tre.turnL
    dsimp only
    split
    · exact ⟨rfl, ⟨rfl, hl, h1⟩, h2⟩
    · cases rl with
      | nil => exact ⟨rfl, hl, rfl, trivial, h2⟩
      | node m1 mk mv m2 =>
        obtain ⟨rfl, h3, h4⟩ := h1
        exact ⟨rfl, ⟨rfl, hl, h3⟩, rfl, h4, h2⟩
theorem K0_lev {l r : Tre} (v : Int) (hl : K0 l) (hr : K0 r) : K0 (Tre.lev l 0 v r) := by
  unfold Tre.lev
  split
  · exact K0_turnR v hl hr
  · split
    · exact K0_turnL v hl hr
    · exact ⟨rfl, hl, hr⟩
end Go.Proofs.Ytbgepeokadmemaa.F
