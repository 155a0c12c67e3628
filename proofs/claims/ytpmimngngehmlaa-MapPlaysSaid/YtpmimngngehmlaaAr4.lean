/-
  Contracts of arenas, whether nil or not: Put, Cut. Not a statement of the seat.
-/
import Derived.Test.YtpmimngngehmlaaAr3
namespace Go.Proofs.Ytpmimngngehmlaa.F
open Go.ChangeShapes Go.WideShapes Go.ChangeAt Go.RowKit Base
/-- The blocks of an arena. -/
def VF (pv : Value) (o : Option Nat) (g : Nat) : Prop := pv = .pointer (some ⟨g, 0, none⟩) ∨ o = some g
/-- Cells lie where they lay, or in a new block. -/
def Mv (o o' : Option Nat) (w : World) : Prop := o' = o ∨ ∃ g, o' = some g ∧ w.heap.size ≤ g
theorem Mv.refl (o : Option Nat) (w : World) : Mv o o w := .inl rfl
theorem Mv.trans {o o' o'' : Option Nat} {w w' : World} (h : Mv o o' w) (k : Mv o' o'' w') (hs : w.heap.size ≤ w'.heap.size) : Mv o o'' w := by
  rcases k with rfl | ⟨g, e, hg⟩
  · exact h
  · exact .inr ⟨g, e, Nat.le_trans hs hg⟩
theorem Mv.lower {o o' : Option Nat} {w w' : World} (h : Mv o o' w') (hs : w.heap.size ≤ w'.heap.size) : Mv o o' w := by
  rcases h with rfl | ⟨g, e, hg⟩
  · exact .inl rfl
  · exact .inr ⟨g, e, Nat.le_trans hs hg⟩
theorem Mv.vf {pv : Value} {o o' : Option Nat} {w : World} (h : Mv o o' w) (g : Nat) (hg : g < w.heap.size) (k : VF pv o' g) : VF pv o g := by
  rcases k with k | k
  · exact .inl k
  · rcases h with rfl | ⟨g', e, hg'⟩
    · exact .inr k
    · rw [e] at k; injection k with k; omega
theorem ArV.lt {w : World} {pv : Value} {o : Option Nat} {room : Nat} {zs : List Cel} (h : ArV w pv o room zs) (g : Nat) (k : VF pv o g) : g < w.heap.size := by
  rcases h with ⟨rfl, rfl, _, _⟩ | ⟨b, rfl, h⟩
  · rcases k with k | k <;> cases k
  · rcases k with k | k
    · injection k with k; injection k with k; injection k with k; exact k ▸ h.lt.1
    · exact (h.lt.2 g k).1
theorem ArV.fr {w w' : World} {F : Nat → Prop} {pv : Value} {o : Option Nat} {room : Nat} {zs : List Cel} (h : ArV w pv o room zs) (hf : Fr F w w') (hF : ∀ g, VF pv o g → ¬ F g) : ArV w' pv o room zs := by
  rcases h with h | ⟨b, rfl, h⟩
  · exact .inl h
  · exact .inr ⟨b, rfl, h.fr hf (hF b (.inl rfl)) (fun g e => hF g (.inr e))⟩
/-- What becomes of an arena: its cells lie where they lay, or in a new block; other blocks are as they were. -/
def ArStep (pv : Value) (o : Option Nat) (room : Nat) (zs : List Cel) (v : Value) (w : World) (e : Ending) (w' : World) : Prop :=
  e = .returned v ∧ ∃ o', ArV w' pv o' room zs ∧ Mv o o' w ∧ Fr (VF pv o) w w'
theorem ArPost.step {b : Nat} {o : Option Nat} {room : Nat} {zs : List Cel} {v : Value} {w w' : World} {e : Ending} (h : ArPost b o room zs v w e w') : ArStep (.pointer (some ⟨b, 0, none⟩)) o room zs v w e w' := by
  obtain ⟨he, o', h1, h2, h3⟩ := h
  exact ⟨he, o', ArV.of h1, h2, h3.mono fun g hg => by
    rcases hg with rfl | hg
    · exact .inl rfl
    · exact .inr hg⟩
theorem ArStep.same {pv : Value} {o : Option Nat} {room : Nat} {zs : List Cel} {v : Value} {w w' : World} {e : Ending} (h : ArV w pv o room zs) (he : e = .returned v) (hb : Below w.heap.size w w') : ArStep pv o room zs v w e w' :=
  ⟨he, o, h.below hb, Mv.refl _ _, Fr.of_below hb⟩
instance (c : Cel) (n : Nat) : Decidable (fitC c n) := by unfold fitC; infer_instance
/-- What becomes of a cell put to an arena: the cells, what is told. -/
def putA (room : Nat) (zs : List Cel) (c : Cel) : List Cel × Int × Int :=
  if fitC c zs.length then if zs.length < room then (zs ++ [c], (zs.length : Int) + 1, 0) else (zs, 0, 2) else (zs, 0, 1)
theorem arput_v {pv : Value} {o : Option Nat} {room : Nat} {zs : List Cel} (c : Cel) (w : World) (h : ArV w pv o room zs) (hok : c.ok) : Calls Try.prog 111 #[pv, .agg #[.int .i64 c.l, .int .i64 c.r, .int .i64 c.k, .int .i64 c.v, .int .i64 c.s, .int .i64 c.h]] w (ArStep pv o room (putA room zs c).1 (.tuple #[.int .i64 (putA room zs c).2.1, .int .i64 (putA room zs c).2.2]) w) := by
  unfold putA
  by_cases hc : fitC c zs.length
  · rw [if_pos hc]
    by_cases hf : zs.length < room
    · rw [if_pos hf]
      rcases h with ⟨_, _, rfl, _⟩ | ⟨b, rfl, h⟩
      · omega
      · exact (arput_ok b o room zs c w h hc hf hok).mono fun _ _ hp => hp.step
    · rw [if_neg hf]
      exact (arput_full c w h hc (by have := h.le; omega)).mono fun _ _ hp => .same h hp.1 hp.2
  · rw [if_neg hc]
    exact (arput_bad c w h hc).mono fun _ _ hp => .same h hp.1 hp.2
/-- What becomes of an arena that is cut. -/
def cutA (zs : List Cel) (n : Int) : List Cel × Bool := if 0 ≤ n ∧ n ≤ (zs.length : Int) then (zs.take n.toNat, true) else (zs, false)
theorem arcut_v {pv : Value} {o : Option Nat} {room : Nat} {zs : List Cel} (n : Int) (w : World) (h : ArV w pv o room zs) : Calls Try.prog 103 #[pv, .int .i64 n] w (ArStep pv o room (cutA zs n).1 (.bool (cutA zs n).2) w) := by
  unfold cutA
  rcases h with ⟨rfl, rfl, rfl, rfl⟩ | ⟨b, rfl, h⟩
  · have := arcut_nil n w
    refine this.mono fun e w' ⟨he, hw⟩ => ?_
    subst hw
    have e1 : (n == 0) = (if 0 ≤ n ∧ n ≤ (([] : List Cel).length : Int) then (([] : List Cel).take n.toNat, true) else ([], false)).2 := by
      by_cases hn : n = 0
      · subst hn; rfl
      · rw [beq_eq_false_iff_ne.2 hn, if_neg (by simp; omega)]
    rw [e1] at he
    have e2 : (if 0 ≤ n ∧ n ≤ (([] : List Cel).length : Int) then (([] : List Cel).take n.toNat, true) else ([], false)).1 = [] := by split <;> simp
    rw [e2]
    exact .same (ArV.nil w) he (Below.refl _ _)
  · by_cases hn : 0 ≤ n ∧ n ≤ (zs.length : Int)
    · rw [if_pos hn]
      have := arcut_yes b o room zs n.toNat w h (by omega)
      rw [Int.toNat_of_nonneg hn.1] at this
      exact this.mono fun _ _ hp => hp.step
    · rw [if_neg hn]
      refine (arcut_no b o room zs n w h (by omega)).mono fun e w' ⟨he, hw⟩ => ?_
      subst hw
      exact .same (ArV.of h) he (Below.refl _ _)
end Go.Proofs.Ytpmimngngehmlaa.F
