/-
  Contracts of pack.compare and what it calls: the order of edges, whatever the edges are. Not a statement of the seat.
-/
import Derived.Test.YtjknnbeemcpppaaDoorHead1
import Derived.Deep.RegionHeld3
import Derived.Deep.DeepCutAuto
import Derived.Sort.Grow
namespace Go.Proofs.YtjknnbeemcpppaaDoor.Pk
open Go.ChangeShapes Go.WideShapes Go.ChangeAt Go.RowKit Base
/-- The world has new blocks and draws, nothing else. -/
structure Gr (w w' : World) : Prop where
  below : Below w.heap.size w w'
  drawn : w.drawn ≤ w'.drawn
theorem Gr.refl (w : World) : Gr w w := ⟨Below.refl _ _, Nat.le_refl _⟩
theorem Gr.trans {a b c : World} (h : Gr a b) (k : Gr b c) : Gr a c := ⟨h.below.trans (k.below.mono h.below.size), Nat.le_trans h.drawn k.drawn⟩
theorem Gr.alloc {a w : World} (h : Gr a w) (o : Obj) : Gr a (w.alloc o) := ⟨h.below.alloc h.below.size o, h.drawn⟩
theorem Gr.setCell {a w : World} (h : Gr a w) {p : Addr} (hp : a.heap.size ≤ p.block) (u : Value) : Gr a (w.setCell p u) := ⟨h.below.setCell hp u, h.drawn⟩
theorem Gr.drew {a w : World} (h : Gr a w) : Gr a w.drew := ⟨h.below.drew, Nat.le_succ_of_le h.drawn⟩
theorem Gr.drewN {a w : World} (h : Gr a w) (n : Nat) : Gr a (w.drewN n) := ⟨below_drewN h.below n, Nat.le_trans h.drawn (Nat.le_add_right _ _)⟩
theorem Gr.grow {w w' : World} (h : Gr w w') : ∃ q os, w' = Sort.grow (w.drewN q) os := by
  obtain ⟨⟨h1, h2, h3, h4, h5⟩, h6⟩ := h
  refine ⟨w'.drawn - w.drawn, w'.heap.extract w.heap.size w'.heap.size, ?_⟩
  obtain ⟨hp, tp, dr, os, out⟩ := w'
  simp only at h1 h2 h3 h4 h5 h6
  subst h1 h2 h3
  unfold Sort.grow World.drewN
  simp only [World.mk.injEq, true_and, and_true]
  refine ⟨?_, by omega⟩
  apply Array.ext_getElem?
  intro i
  rw [Array.getElem?_append]
  by_cases hi : i < w.heap.size
  · rw [if_pos hi]; exact h5 i hi
  · rw [if_neg hi, Array.getElem?_extract]
    by_cases h : i < hp.size
    · rw [if_pos (by omega)]; congr 1; omega
    · rw [if_neg (by omega), Array.getElem?_eq_none (by omega)]
def cmpI (a b : Int) : Int := if a < b then -1 else if b < a then 1 else 0
theorem cmpCompare_any (a b : Int) (w : World) : Calls Tryd.prog 47 #[.int .i64 a, .int .i64 b] w fun e w' => e = .returned (.int .i64 (cmpI a b)) ∧ w' = w := by
  have ha : (a != a) = false := by simp
  have hb : (b != b) = false := by simp
  rcases Int.lt_trichotomy a b with h | h | h
  · rw [show cmpI a b = -1 from by unfold cmpI; rw [if_pos h]]
    go_enter Tryd.func47, Tryd.ntmps47
    go_wp2
    go_ret
    exact ⟨rfl, rfl⟩
  · subst h
    rw [show cmpI a a = 0 from by unfold cmpI; simp]
    go_enter Tryd.func47, Tryd.ntmps47
    go_wp2
    go_ret
    exact ⟨rfl, rfl⟩
  · rw [show cmpI a b = 1 from by unfold cmpI; rw [if_neg (by omega), if_pos h]]
    go_enter Tryd.func47, Tryd.ntmps47
    go_wp2
    go_ret
    exact ⟨rfl, rfl⟩
set_option maxHeartbeats 1000000 in
theorem ranks_any (f t k y : Int) (w : World) : Calls Tryd.prog 46 #[.agg #[.int .i64 f, .int .i64 t, .int .i64 k, .int .i64 y]] w fun e w' => e = .returned (.agg #[.int .i64 f, .int .i64 k, .int .i64 y, .int .i64 t]) ∧ Gr w w' := by
  go_enter Tryd.func46, Tryd.ntmps46
  go_wp2
  refine bodyPost_ret (v := .agg #[.int .i64 f, .int .i64 k, .int .i64 y, .int .i64 t]) (by simp [results, Tryd.results46, go_sem]) rfl ⟨rfl, ?_⟩
  repeat' (first | exact Gr.refl _ | apply Gr.alloc | (refine Gr.setCell ?_ (by simp) _))
set_option maxHeartbeats 1000000 in
theorem ranks_eq (f t k y : Int) (w : World) : Calls Tryd.prog 46 #[.agg #[.int .i64 f, .int .i64 t, .int .i64 k, .int .i64 y]] w fun e w' => e = .returned (.agg #[.int .i64 f, .int .i64 k, .int .i64 y, .int .i64 t]) ∧
    (w.alloc (.cells #[.int .i64 f, .int .i64 t, .int .i64 k, .int .i64 y] 32)).alloc (.cells #[.int .i64 f, .int .i64 k, .int .i64 y, .int .i64 t] 59) = w' := by
  go_enter Tryd.func46, Tryd.ntmps46
  go_wp2
  refine bodyPost_ret (v := .agg #[.int .i64 f, .int .i64 k, .int .i64 y, .int .i64 t]) (by simp [results, Tryd.results46, go_sem]) rfl ⟨rfl, ?_⟩
  rfl
def cmpE (f t k y f' t' k' y' : Int) : Int := if f ≠ f' then cmpI f f' else if k ≠ k' then cmpI k k' else if y ≠ y' then cmpI y y' else if t ≠ t' then cmpI t t' else 0
/-- What stands behind the two arrays: two blocks that hold what weighs most first. -/
def Ranked (f t k y f' t' k' y' : Int) (w : World) (s5 s6 : Value) (wx : World) : Prop := ∃ p q : Nat, s5 = .pointer (some ⟨p, 0, none⟩) ∧ s6 = .pointer (some ⟨q, 0, none⟩) ∧
    (wx.cell? ⟨p, 0, none⟩ = some (.int .i64 f) ∧ wx.cell? ⟨p, 1, none⟩ = some (.int .i64 k) ∧ wx.cell? ⟨p, 2, none⟩ = some (.int .i64 y) ∧ wx.cell? ⟨p, 3, none⟩ = some (.int .i64 t)) ∧
    (wx.cell? ⟨q, 0, none⟩ = some (.int .i64 f') ∧ wx.cell? ⟨q, 1, none⟩ = some (.int .i64 k') ∧ wx.cell? ⟨q, 2, none⟩ = some (.int .i64 y') ∧ wx.cell? ⟨q, 3, none⟩ = some (.int .i64 t')) ∧ Gr w wx
theorem quietAgain {P : Program} {f : FuncId} {args : Array Value} {w : World} {a n : Nat} {v : Value} (h : Calls P f args (w.drewN (a + n)) fun e w' => e = .returned v ∧ w' = w.drewN (a + n)) :
    Calls P f args (w.drewN (a + n)) fun e w'' => e = .returned v ∧ ∃ m, w'' = w.drewN (a + m) :=
  h.mono fun _ _ hh => ⟨hh.1, n, hh.2⟩
set_option maxHeartbeats 4000000 in
theorem compare_any (f t k y f' t' k' y' : Int) (w : World) : Calls Tryd.prog 38 #[.agg #[.int .i64 f, .int .i64 t, .int .i64 k, .int .i64 y], .agg #[.int .i64 f', .int .i64 t', .int .i64 k', .int .i64 y']] w fun e w' => e = .returned (.int .i64 (cmpE f t k y f' t' k' y')) ∧ Gr w w' := by
  go_enter Tryd.func38, Tryd.ntmps38
  go_upto_region 1 with fail
  go_cut [5, 6] (fun s5 s6 wx => Ranked f t k y f' t' k' y' w s5 s6 wx)
  case first =>
    go_region_held3 (fun w' => w'.cell? ⟨w.heap.size, 0, none⟩ = some (.int .i64 f) ∧ w'.cell? ⟨w.heap.size, 1, none⟩ = some (.int .i64 t) ∧ w'.cell? ⟨w.heap.size, 2, none⟩ = some (.int .i64 k) ∧ w'.cell? ⟨w.heap.size, 3, none⟩ = some (.int .i64 y) ∧ w'.cell? ⟨w.heap.size + 1, 0, none⟩ = some (.int .i64 f') ∧ w'.cell? ⟨w.heap.size + 1, 1, none⟩ = some (.int .i64 t') ∧ w'.cell? ⟨w.heap.size + 1, 2, none⟩ = some (.int .i64 k') ∧ w'.cell? ⟨w.heap.size + 1, 3, none⟩ = some (.int .i64 y'))
      (first | (simp [go_sem]; done) | (go_keep; done))
      ((first | (go_at_call 46; refine (ranks_eq _ _ _ _ _).mono ?_; rintro e w1 ⟨rfl, rfl⟩)))
    all_goals (go_wp2_with fail; go_meet; refine ⟨_, _, rfl, rfl, by simp [go_sem], by simp [go_sem], ?_⟩; (repeat' (first | exact Gr.refl _ | apply Gr.drewN | apply Gr.drew | (refine Gr.setCell ?_ (by simp) _) | apply Gr.alloc)))
  case rest =>
    obtain ⟨p, q, rfl, rfl, ⟨a0, a1, a2, a3⟩, ⟨b0, b1, b2, b3⟩, hg⟩ := hcut
    go_wp2
    refine wp_loop_rounds 5 ?_
    by_cases h0 : f = f'
    case neg =>
      have d0 : (f != f') = true := by rw [bne_iff_ne]; exact h0
      rw [rounds_succ]
      go_wp2
      go_quiet (fail)
      go_wp2
      go_quiet ((go_at_call 47; exact quietAgain (cmpCompare_any _ _ _)))
      go_wp2
      go_ret
      exact ⟨ret_int (by unfold cmpE; rw [if_pos h0]), by repeat (first | exact hg | apply Gr.drewN)⟩
    have d0 : (f != f') = false := by rw [bne_eq_false_iff_eq]; exact h0
    have H0 := Lib.hid h0
    clear h0
    rw [rounds_succ]
    go_wp2
    go_quiet (fail)
    go_wp2
    by_cases h1 : k = k'
    case neg =>
      have d1 : (k != k') = true := by rw [bne_iff_ne]; exact h1
      rw [rounds_succ]
      go_wp2
      go_quiet (fail)
      go_wp2
      go_quiet ((go_at_call 47; exact quietAgain (cmpCompare_any _ _ _)))
      go_wp2
      go_ret
      exact ⟨ret_int (by unfold cmpE; rw [if_neg (fun hh => hh H0.out), if_pos h1]), by repeat (first | exact hg | apply Gr.drewN)⟩
    have d1 : (k != k') = false := by rw [bne_eq_false_iff_eq]; exact h1
    have H1 := Lib.hid h1
    clear h1
    rw [rounds_succ]
    go_wp2
    go_quiet (fail)
    go_wp2
    by_cases h2 : y = y'
    case neg =>
      have d2 : (y != y') = true := by rw [bne_iff_ne]; exact h2
      rw [rounds_succ]
      go_wp2
      go_quiet (fail)
      go_wp2
      go_quiet ((go_at_call 47; exact quietAgain (cmpCompare_any _ _ _)))
      go_wp2
      go_ret
      exact ⟨ret_int (by unfold cmpE; rw [if_neg (fun hh => hh H0.out), if_neg (fun hh => hh H1.out), if_pos h2]), by repeat (first | exact hg | apply Gr.drewN)⟩
    have d2 : (y != y') = false := by rw [bne_eq_false_iff_eq]; exact h2
    have H2 := Lib.hid h2
    clear h2
    rw [rounds_succ]
    go_wp2
    go_quiet (fail)
    go_wp2
    by_cases h3 : t = t'
    case neg =>
      have d3 : (t != t') = true := by rw [bne_iff_ne]; exact h3
      rw [rounds_succ]
      go_wp2
      go_quiet (fail)
      go_wp2
      go_quiet ((go_at_call 47; exact quietAgain (cmpCompare_any _ _ _)))
      go_wp2
      go_ret
      exact ⟨ret_int (by unfold cmpE; rw [if_neg (fun hh => hh H0.out), if_neg (fun hh => hh H1.out), if_neg (fun hh => hh H2.out), if_pos h3]), by repeat (first | exact hg | apply Gr.drewN)⟩
    have d3 : (t != t') = false := by rw [bne_eq_false_iff_eq]; exact h3
    have H3 := Lib.hid h3
    clear h3
    rw [rounds_succ]
    go_wp2
    go_quiet (fail)
    go_wp2
    rw [rounds_succ]
    go_wp2
    go_ret
    exact ⟨ret_int (by unfold cmpE; rw [if_neg (fun hh => hh H0.out), if_neg (fun hh => hh H1.out), if_neg (fun hh => hh H2.out), if_neg (fun hh => hh H3.out)]), by repeat (first | exact hg | apply Gr.drewN)⟩
end Go.Proofs.YtjknnbeemcpppaaDoor.Pk
