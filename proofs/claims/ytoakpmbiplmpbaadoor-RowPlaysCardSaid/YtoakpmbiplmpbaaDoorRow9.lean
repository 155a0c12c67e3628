/-
  Contracts of Same, and of the nil row; and of the document's SameInts. Not a statement of the seat.
-/
import Derived.Test.YtoakpmbiplmpbaaDoorRow7
import Derived.Test.YtoakpmbiplmpbaaDoorRow8
namespace Go.Proofs.YtoakpmbiplmpbaaDoor.Bits
open Go.ChangeShapes Go.WideShapes Go.ChangeAt Go.RowKit Base Go.Shelf
theorem len_nil (w : World) : Calls Tryd.prog 15 #[.pointer none] w fun e w' => e = .returned (.int .i64 0) ∧ w = w' := by
  go_enter Tryd.func15, Tryd.ntmps15
  go_wp2
  go_ret
  exact ⟨rfl, rfl⟩
theorem next_nil (w : World) : Calls Tryd.prog 46 #[.pointer none, .int .i64 0] w fun e w' => e = .returned (.int .i64 (-1)) ∧ w = w' := by
  go_enter Tryd.func46, Tryd.ntmps46
  go_wp2
  go_ret
  exact ⟨rfl, rfl⟩
theorem has_nil (w : World) : Calls Tryd.prog 25 #[.pointer none, .int .i64 0] w fun e w' => e = .returned (.bool false) ∧ w = w' := by
  go_enter Tryd.func25, Tryd.ntmps25
  go_wp2
  go_ret
  exact ⟨rfl, rfl⟩
theorem count_nil (w : World) : Calls Tryd.prog 22 #[.pointer none] w fun e w' => e = .returned (.int .i64 0) ∧ w = w' := by
  go_enter Tryd.func22, Tryd.ntmps22
  go_wp2
  go_ret
  exact ⟨rfl, rfl⟩
theorem or_nil (b : Nat) (w : World) : Calls Tryd.prog 19 #[.pointer none, .pointer (some ⟨b, 0, none⟩)] w fun e w' => e = .returned (.bool false) ∧ w = w' := by
  go_enter Tryd.func19, Tryd.ntmps19
  go_wp2
  go_ret
  exact ⟨rfl, rfl⟩
theorem words_list (n V : Nat) : ((List.range ((n + 63) / 64)).map fun k => ((wrd V k : Nat) : Int)).length = (n + 63) / 64 := by simp
def wlist (n V : Nat) : List Int := (List.range ((n + 63) / 64)).map fun k => ((wrd V k : Nat) : Int)
theorem wlist_len (n V : Nat) : (wlist n V).length = (n + 63) / 64 := by simp [wlist]
theorem wlist_get {n V k : Nat} (h : k < (n + 63) / 64) : (wlist n V)[k]! = ((wrd V k : Nat) : Int) := by
  rw [getElem!_pos (wlist n V) k (by rw [wlist_len]; exact h)]
  simp [wlist]
theorem allEq_self : ∀ l : List Int, Lib.allEq (fun x y => x == y) l l = true
  | [] => rfl
  | x :: l => by simp [Lib.allEq, allEq_self l]
theorem allEq_iff : ∀ l m : List Int, Lib.allEq (fun x y => x == y) l m = true → l = m
  | [], [], _ => rfl
  | x :: l, y :: m, h => by
    simp [Lib.allEq] at h
    rw [h.1, allEq_iff l m h.2]
  | [], _ :: _, h => by simp [Lib.allEq] at h
  | _ :: _, [], h => by simp [Lib.allEq] at h
theorem wlist_eq {n V W : Nat} (hV : V < 2 ^ n) (hW : W < 2 ^ n) : Lib.allEq (fun x y => x == y) (wlist n V) (wlist n W) = decide (V = W) := by
  by_cases e : V = W
  · subst e
    rw [allEq_self]; simp
  · have : Lib.allEq (fun x y => x == y) (wlist n V) (wlist n W) ≠ true := fun h => e (words_ext hV hW fun k hk => by
      have h1 := allEq_iff _ _ h
      have h2 := wlist_get (V := V) hk
      rw [h1, wlist_get hk] at h2
      omega)
    rw [decide_eq_false e]
    simpa using this
theorem equal_any (b g V b' g' W n : Nat) (w : World) (h : RowAt w b g n V) (h' : RowAt w b' g' n W) (c c' : Nat) : Calls Tryd.prog 52 #[.slice (some ⟨g, 0, none⟩) ((n + 63) / 64) c, .slice (some ⟨g', 0, none⟩) ((n + 63) / 64) c'] w fun e w' => e = .returned (.bool (decide (V = W))) ∧ ∃ q, w' = w.drewN q := by
  have hn := h.2.2.1
  have hc := AnyE.slices_Equal Tryd.equalWords (Value.int .u64) (fun x y => x == y) (NeqAt.int _ _ .u64) g 0 ((n + 63) / 64) c g' 0 ((n + 63) / 64) c' (wlist n V) (wlist n W) w (by rw [wlist_len]; exact Nat.le_refl _) (by rw [wlist_len]; exact Nat.le_refl _) (by omega) (by omega)
    (fun j hj => by rw [wlist_len] at hj; rw [wlist_get hj, Nat.zero_add]; exact (h.word hj).1) (fun j hj => by rw [wlist_len] at hj; rw [wlist_get hj, Nat.zero_add]; exact (h'.word hj).1)
  have e1 : (wlist n V).take ((n + 63) / 64) = wlist n V := by rw [← wlist_len n V, List.take_length]
  have e2 : (wlist n W).take ((n + 63) / 64) = wlist n W := by rw [← wlist_len n W, List.take_length]
  rw [e1, e2, wlist_eq h.2.2.2 h'.2.2.2] at hc
  exact hc
set_option maxHeartbeats 1000000 in
theorem same_any (b g V b' g' W n : Nat) (w : World) (h : RowAt w b g n V) (h' : RowAt w b' g' n W) : Calls Tryd.prog 14 #[.pointer (some ⟨b, 0, none⟩), .pointer (some ⟨b', 0, none⟩)] w fun e w' => e = .returned (.bool (decide (V = W))) ∧ ∃ q, w' = w.drewN q := by
  obtain ⟨h0, h1⟩ := h.head
  obtain ⟨k0, k1⟩ := h'.head
  have hn := h.2.2.1
  by_cases hz : n = 0
  · subst hz
    have e1 : V = 0 := by have := h.2.2.2; simpa using this
    have e2 : W = 0 := by have := h'.2.2.2; simpa using this
    rw [e1, e2, decide_eq_true rfl]
    clear h h' e1 e2
    go_enter Tryd.func14, Tryd.ntmps14
    go_wp2
    go_ret
    exact ⟨rfl, 0, rfl⟩
  · have hpos : 0 < n := Nat.pos_of_ne_zero hz
    have HE := Lib.hid (fun q => equal_any b g V b' g' W n (w.drewN q) (h.drewN q) (h'.drewN q) ((n + 63) / 64) ((n + 63) / 64))
    clear h h' hz
    generalize decide (V = W) = r at HE ⊢
    go_enter Tryd.func14, Tryd.ntmps14
    go_wp2
    go_quiet ((go_at_call 52; exact Calls.quiet_of (HE.out _)))
    go_wp2
    go_ret
    exact ⟨rfl, _, rfl⟩
theorem same_zero_nil (b g V : Nat) (w : World) (h : RowAt w b g 0 V) : Calls Tryd.prog 14 #[.pointer (some ⟨b, 0, none⟩), .pointer none] w fun e w' => e = .returned (.bool true) ∧ w = w' := by
  obtain ⟨h0, h1⟩ := h.head
  clear h
  go_enter Tryd.func14, Tryd.ntmps14
  go_wp2
  go_ret
  exact ⟨rfl, rfl⟩
end Go.Proofs.YtoakpmbiplmpbaaDoor.Bits
