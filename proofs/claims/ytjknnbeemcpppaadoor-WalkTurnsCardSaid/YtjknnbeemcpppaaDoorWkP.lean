/-
  Walks: the text of a walk, pure, and contracts of both words. Not a statement of the seat.
-/
import Derived.Test.YtjknnbeemcpppaaDoorWkB
import Derived.Test.YtjknnbeemcpppaaDoorWk1
import Derived.Test.YtjknnbeemcpppaaDoorNuTx
namespace Go.Proofs.YtjknnbeemcpppaaDoor.Wk
open Go.ChangeShapes Go.WideShapes Go.ChangeAt Go.RowKit Base Go.Lib Nu Sb Pk F
/-- A kind's word. -/
def wordK (k : Int) : List UInt8 := if k = 1 then [119, 119] else if k = 2 then [119, 114] else if k = 3 then [114, 119] else [120]
theorem wordK_len (k : Int) : (wordK k).length ≤ 2 := by unfold wordK; repeat' split
                                                         all_goals simp
def piece (x : E) : List UInt8 := [32] ++ wordK x.2.2.1 ++ itoa x.2.2.2 ++ [32] ++ itoa x.2.1
def pcs (l : List E) (k : Nat) : List UInt8 := (l.take k).flatMap piece
theorem pcs_succ (l : List E) (k : Nat) (hk : k < l.length) : pcs l (k + 1) = pcs l k ++ piece (l.getD k zE) := by
  unfold pcs
  rw [List.take_add_one, List.getElem?_eq_getElem hk, List.flatMap_append]
  simp [hk]
/-- The text of a walk. -/
def textL (l : List E) : List UInt8 := if l.length = 0 then [] else itoa (l.getD 0 zE).1 ++ pcs l l.length
def okI (x : Int) : Prop := -9223372036854775808 ≤ x ∧ x ≤ 9223372036854775807
def OkE (x : E) : Prop := okI x.1 ∧ okI x.2.1 ∧ okI x.2.2.1 ∧ okI x.2.2.2
def OkL (l : List E) : Prop := ∀ i, OkE (l.getD i zE)
theorem piece_len {x : E} (h : OkE x) : (piece x).length ≤ 60 := by
  obtain ⟨_, h1, _, h3⟩ := h
  have a := itoa_len h1.1 h1.2
  have b := itoa_len h3.1 h3.2
  have c := wordK_len x.2.2.1
  unfold piece
  simp only [List.length_append, List.length_cons, List.length_nil]
  omega
theorem pcs_len {l : List E} (h : OkL l) : ∀ k, k ≤ l.length → (pcs l k).length ≤ 60 * k
  | 0, _ => by simp [pcs]
  | k + 1, hk => by
    rw [pcs_succ l k (by omega), List.length_append]
    have := pcs_len h k (by omega)
    have := piece_len (h k)
    omega
set_option maxRecDepth 100000 in
theorem word_any (k : Int) (w : World) : Calls Tryd.prog 32 #[.int .i64 k] w fun e w' => e = .returned (.string ⟨(wordK k).toArray⟩) ∧ w = w' := by
  by_cases h1 : k = 1
  · subst h1
    go_enter Tryd.func32, Tryd.ntmps32
    go_wp2
    go_ret
    exact ⟨rfl, rfl⟩
  · have d1 : (k == 1) = false := by rw [beq_eq_false_iff_ne]; exact h1
    by_cases h2 : k = 2
    · subst h2
      go_enter Tryd.func32, Tryd.ntmps32
      go_wp2
      go_ret
      exact ⟨rfl, rfl⟩
    · have d2 : (k == 2) = false := by rw [beq_eq_false_iff_ne]; exact h2
      by_cases h3 : k = 3
      · subst h3
        go_enter Tryd.func32, Tryd.ntmps32
        go_wp2
        go_ret
        exact ⟨rfl, rfl⟩
      · have d3 : (k == 3) = false := by rw [beq_eq_false_iff_ne]; exact h3
        have e : wordK k = [120] := by unfold wordK; rw [if_neg h1, if_neg h2, if_neg h3]
        rw [e]
        go_enter Tryd.func32, Tryd.ntmps32
        go_wp2
        go_ret
        exact ⟨rfl, rfl⟩
set_option maxRecDepth 100000 in
theorem rword_any (k : Int) (w : World) : Calls Tryd.prog 35 #[.int .i64 k] w fun e w' => e = .returned (.string ⟨(wordK k).toArray⟩) ∧ w = w' := by
  by_cases h1 : k = 1
  · subst h1
    go_enter Tryd.func35, Tryd.ntmps35
    go_wp2
    go_ret
    exact ⟨rfl, rfl⟩
  · have d1 : (k == 1) = false := by rw [beq_eq_false_iff_ne]; exact h1
    by_cases h2 : k = 2
    · subst h2
      go_enter Tryd.func35, Tryd.ntmps35
      go_wp2
      go_ret
      exact ⟨rfl, rfl⟩
    · have d2 : (k == 2) = false := by rw [beq_eq_false_iff_ne]; exact h2
      by_cases h3 : k = 3
      · subst h3
        go_enter Tryd.func35, Tryd.ntmps35
        go_wp2
        go_ret
        exact ⟨rfl, rfl⟩
      · have d3 : (k == 3) = false := by rw [beq_eq_false_iff_ne]; exact h3
        have e : wordK k = [120] := by unfold wordK; rw [if_neg h1, if_neg h2, if_neg h3]
        rw [e]
        go_enter Tryd.func35, Tryd.ntmps35
        go_wp2
        go_ret
        exact ⟨rfl, rfl⟩
end Go.Proofs.YtjknnbeemcpppaaDoor.Wk
