/-
  Contracts of Same, and of the nil row; and of the document's SameInts. Not a statement of the seat.
-/
import Derived.Test.YtakgepdlninnhaaDoorRow7
import Derived.Test.YtakgepdlninnhaaDoorHead16
import Derived.Lib.SlBy2
namespace Go.Proofs.YtakgepdlninnhaaDoor.Bits
open Go.ChangeShapes Go.WideShapes Go.ChangeAt Go.RowKit Base Go.Shelf
theorem len_nil (w : World) : Calls Tryd.prog 66 #[.pointer none] w fun e w' => e = .returned (.int .i64 0) ∧ w = w' := by
  go_enter Tryd.func66, Tryd.ntmps66
  go_wp2
  go_ret
  exact ⟨rfl, rfl⟩
theorem next_nil (w : World) : Calls Tryd.prog 51 #[.pointer none, .int .i64 0] w fun e w' => e = .returned (.int .i64 (-1)) ∧ w = w' := by
  go_enter Tryd.func51, Tryd.ntmps51
  go_wp2
  go_ret
  exact ⟨rfl, rfl⟩
theorem has_nil (w : World) : Calls Tryd.prog 34 #[.pointer none, .int .i64 0] w fun e w' => e = .returned (.bool false) ∧ w = w' := by
  go_enter Tryd.func34, Tryd.ntmps34
  go_wp2
  go_ret
  exact ⟨rfl, rfl⟩
theorem count_nil (w : World) : Calls Tryd.prog 48 #[.pointer none] w fun e w' => e = .returned (.int .i64 0) ∧ w = w' := by
  go_enter Tryd.func48, Tryd.ntmps48
  go_wp2
  go_ret
  exact ⟨rfl, rfl⟩
theorem or_nil (b : Nat) (w : World) : Calls Tryd.prog 41 #[.pointer none, .pointer (some ⟨b, 0, none⟩)] w fun e w' => e = .returned (.bool false) ∧ w = w' := by
  go_enter Tryd.func41, Tryd.ntmps41
  go_wp2
  go_ret
  exact ⟨rfl, rfl⟩
theorem words_list (n V : Nat) : ((List.range ((n + 63) / 64)).map fun k => ((wrd V k : Nat) : Int)).length = (n + 63) / 64 := by simp
def wlist (n V : Nat) : List Int := (List.range ((n + 63) / 64)).map fun k => ((wrd V k : Nat) : Int)
theorem wlist_len (n V : Nat) : (wlist n V).length = (n + 63) / 64 := by simp [wlist]
theorem wlist_get {n V k : Nat} (h : k < (n + 63) / 64) : (wlist n V)[k]! = ((wrd V k : Nat) : Int) := by
  rw [getElem!_pos (wlist n V) k (by rw [wlist_len]; exact h)]
  simp [wlist]
theorem allEq_self : ∀ l : List Int, Lib.allEq (fun x y => x == y) l l = true
  | [] => rfl
  | x :: l => by simp [Lib.allEq, allEq_self l]
theorem allEq_iff : ∀ l m : List Int, Lib.allEq (fun x y => x == y) l m = true → l = m
  | [], [], _ => rfl
  | x :: l, y :: m, h => by
    simp [Lib.allEq] at h
    rw [h.1, allEq_iff l m h.2]
  | [], _ :: _, h => by simp [Lib.allEq] at h
  | _ :: _, [], h => by simp [Lib.allEq] at h
theorem wlist_eq {n V W : Nat} (hV : V < 2 ^ n) (hW : W < 2 ^ n) : Lib.allEq (fun x y => x == y) (wlist n V) (wlist n W) = decide (V = W) := by
  by_cases e : V = W
  · subst e
    rw [allEq_self]; simp
  · have : Lib.allEq (fun x y => x == y) (wlist n V) (wlist n W) ≠ true := fun h => e (words_ext hV hW fun k hk => by
      have h1 := allEq_iff _ _ h
      have h2 := wlist_get (V := V) hk
      rw [h1, wlist_get hk] at h2
      omega)
    rw [decide_eq_false e]
    simpa using this
end Go.Proofs.YtakgepdlninnhaaDoor.Bits
