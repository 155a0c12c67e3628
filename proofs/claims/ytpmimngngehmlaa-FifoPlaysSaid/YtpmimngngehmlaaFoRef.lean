/-
  Contract of the document's own answer on queues and stacks: Push. Not a statement of the seat.
-/
import Derived.Test.YtpmimngngehmlaaFi
import Derived.Test.YtpmimngngehmlaaArRoom
namespace Go.Proofs.Ytpmimngngehmlaa.F
open Go.ChangeShapes Go.WideShapes Go.ChangeAt Go.RowKit Base
set_option maxHeartbeats 1000000 in
set_option maxRecDepth 100000 in
theorem foref {v : Value} {xs : List Int} (x : Int) (st : Bool) {w : World} (hx : Lst.Ints 0 w v xs) (hu : ∀ n c, v = .slice none n c → c = 0) (hl : xs.length ≤ 65536) :
    Calls Try.prog 43 #[v, .int .i64 x, .bool st] w (OwnNew (if st then x :: xs else xs ++ [x]) w) := by
  have HX := Lib.hid hx
  have HU := Lib.hid hu
  clear hx hu
  cases st with
  | true =>
    rw [if_pos rfl]
    have HE : Hid (∀ v' w', Lst.OwnI w.heap.size w' v' ([x] ++ xs) → (w.alloc (.cells #[.int .i64 x] 3)).grownBy w' (Value.slice (some ⟨w.heap.size, 0, none⟩) 1 1).ownBlock → OwnNew (x :: xs) w (.returned v') w') := Lib.hid fun v' w' ho hg =>
      ⟨v', rfl, ho, ((Below.refl _ _).alloc (Nat.le_refl _) _).grown hg (by simp) (fun k hk => by simp [Value.ownBlock] at hk; omega)⟩
    generalize OwnNew (x :: xs) w = Post at HE ⊢
    go_enter Try.func43, Try.ntmps43
    go_wp2_with (at_builtin; refine Lst.append_ints rfl (.tmp 9) (.tmp 10) rfl (by simp) (Lst.ownI_one (B := w.heap.size) x (Nat.le_refl _) (heap_alloc_at _ _ _ rfl)) rfl (HX.out.below ((Below.refl _ _).alloc (Nat.le_refl _) _)) HU.out rfl (by simp; omega) ?_; intro v' w' ho hg hat; have HF := Lib.hid (HE.out _ _ ho hg); clear ho hg hat)
    exact HF.out
  | false =>
    rw [if_neg (by simp)]
    have HE1 : Hid (∀ v' w', Lst.OwnI w.heap.size w' v' ([] ++ xs) → (w.alloc (.cells #[] 3)).grownBy w' (Value.slice (some ⟨w.heap.size, 0, none⟩) 0 0).ownBlock → Lst.OwnI w.heap.size w' v' xs ∧ Below w.heap.size w w') := Lib.hid fun v' w' ho hg =>
      ⟨ho, ((Below.refl _ _).alloc (Nat.le_refl _) _).grown hg (by simp) (fun k hk => by simp [Value.ownBlock] at hk; omega)⟩
    have HE2 : Hid (∀ (w1 : World) v1 v' w', Lst.OwnI w.heap.size w1 v1 xs ∧ Below w.heap.size w w1 → Lst.OwnI w.heap.size w' v' (xs ++ [x]) → (w1.alloc (.cells #[.int .i64 x] 3)).grownBy w' v1.ownBlock → OwnNew (xs ++ [x]) w (.returned v') w') := Lib.hid fun w1 v1 v' w' h1 ho hg =>
      ⟨v', rfl, ho, (h1.2.alloc h1.2.size _).grown hg (by have := h1.2.size; simp; omega) (Lst.own_base h1.1)⟩
    generalize OwnNew (xs ++ [x]) w = Post at HE2 ⊢
    go_enter Try.func43, Try.ntmps43
    go_wp2_with (first
      | (at_builtin; refine Lst.append_ints rfl (.tmp 12) (.tmp 13) rfl (by simp) (Lst.ownI_empty (B := w.heap.size) (Nat.le_refl _) (heap_alloc_at _ _ _ rfl)) rfl (HX.out.below ((Below.refl _ _).alloc (Nat.le_refl _) _)) HU.out rfl (by simp; omega) ?_; intro v1 w1 ho hg hat; have HF := Lib.hid (HE1.out _ _ ho hg); clear ho hg hat HE1)
      | (at_builtin; refine Lst.append_ints rfl (.tmp 14) (.tmp 16) rfl (by have := HF.out.2.size; simp; omega) (Lst.OwnI.lay HF.out.1 rfl _) rfl (Lst.int_lit x _) (fun n c e => by cases e) rfl (by simp; omega) ?_; intro v2 w2 ho hg hat; have HG := Lib.hid (HE2.out _ _ _ _ HF.out ho hg); clear ho hg hat))
    exact HG.out
end Go.Proofs.Ytpmimngngehmlaa.F
