/-
  What the statements on queues and stacks ask first: answers that the document gives. Not a statement of the seat.
-/
import Derived.Test.YtpmimngngehmlaaFi
import Derived.Test.YtpmimngngehmlaaLstSame
namespace Go.Proofs.Ytpmimngngehmlaa.F
open Go.ChangeShapes Go.WideShapes Go.ChangeAt Go.RowKit Base
theorem FI.qstep {w0 w : World} {qb qg sb : Nat} {so : Option Nat} {rq rs : Nat} {xq xs : List Int} {bs : List (Nat × Obj)} (h : FI w0 w qb qg sb so rq rs xq xs bs) (x : Int) (hl : xq.length < rq) : Calls Try.prog 42 #[.pointer (some ⟨qb, 0, none⟩), .int .i64 x] w (QPost qb qg rq (xq ++ [x]) (.int .i64 0) w) := fqpush_ok h.1 hl x
theorem FI.sstep {w0 w : World} {qb qg sb : Nat} {so : Option Nat} {rq rs : Nat} {xq xs : List Int} {bs : List (Nat × Obj)} (h : FI w0 w qb qg sb so rq rs xq xs bs) (x : Int) (hl : xs.length < rs) : Calls Try.prog 41 #[.pointer (some ⟨sb, 0, none⟩), .int .i64 x] w (SPost sb so rs (xs ++ [x]) (.int .i64 0) w) := fspush_ok h.2.1 hl x
set_option maxRecDepth 100000 in
set_option maxHeartbeats 4000000 in
theorem folives (w : World) : Calls Try.prog 39 #[] w fun e w' => e = .returned (.bool true) ∧ Below w.heap.size w w' := by
  go_enter Try.func39, Try.ntmps39
  go_wp2_with fail
  refine (fqnew 3 w).mono ?_
  intro e w1 h1
  have H1 := Lib.hid h1
  obtain ⟨b0, g0, rfl, _⟩ := h1
  go_wp2_with fail
  refine (fsnew 3 w1).mono ?_
  intro e w2 h2
  obtain ⟨qb, qg, sb, e1, rfl, I0⟩ := FI.new H1.out h2
  injection e1 with e1; injection e1 with e1; injection e1 with e1; injection e1 with e1
  subst e1
  clear h2 H1
  rw [show roomOf 3 = 3 by decide] at I0
  go_wp2_with fail
  refine wp_loop_rounds 4 ?_
  rw [rounds_succ]
  go_wp2_with fail
  refine (I0.out.qstep 1 (by decide)).mono ?_
  intro e u0 hq
  obtain ⟨he, I1⟩ : _ ∧ Hid (FI w u0 b0 qg sb none 3 3 [1] [] []) := I0.out.q hq
  subst he
  clear hq I0
  go_wp2_with fail
  refine (I1.out.sstep 1 (by decide)).mono ?_
  intro e u1 hs
  obtain ⟨he, so1, I2⟩ : _ ∧ ∃ so, Hid (FI w u1 b0 qg sb so 3 3 [1] [1] []) := I1.out.s hs
  subst he
  clear hs I1
  go_wp2_with fail
  rw [rounds_succ]
  go_wp2_with fail
  refine (I2.out.qstep 2 (by decide)).mono ?_
  intro e u2 hq
  obtain ⟨he, I3⟩ : _ ∧ Hid (FI w u2 b0 qg sb so1 3 3 [1, 2] [1] []) := I2.out.q hq
  subst he
  clear hq I2
  go_wp2_with fail
  refine (I3.out.sstep 2 (by decide)).mono ?_
  intro e u3 hs
  obtain ⟨he, so3, I4⟩ : _ ∧ ∃ so, Hid (FI w u3 b0 qg sb so 3 3 [1, 2] [1, 2] []) := I3.out.s hs
  subst he
  clear hs I3
  go_wp2_with fail
  rw [rounds_succ]
  go_wp2_with fail
  refine (I4.out.qstep 3 (by decide)).mono ?_
  intro e u4 hq
  obtain ⟨he, I5⟩ : _ ∧ Hid (FI w u4 b0 qg sb so3 3 3 [1, 2, 3] [1, 2] []) := I4.out.q hq
  subst he
  clear hq I4
  go_wp2_with fail
  refine (I5.out.sstep 3 (by decide)).mono ?_
  intro e u5 hs
  obtain ⟨he, so5, I6⟩ : _ ∧ ∃ so, Hid (FI w u5 b0 qg sb so 3 3 [1, 2, 3] [1, 2, 3] []) := I5.out.s hs
  subst he
  clear hs I5
  go_wp2_with fail
  rw [rounds_succ]
  go_wp2_with fail
  refine (fqpush_full I6.out.1 rfl 4).mono ?_
  rintro e u6 ⟨rfl, n6, hu⟩
  have I7 := Lib.hid (I6.out.below (hu ▸ below_drewN (Below.refl _ _) n6 : Below _ _ u6))
  clear I6 hu
  go_wp2_with fail
  refine (fspush_full I7.out.2.1 rfl 4).mono ?_
  rintro e u7 ⟨rfl, n7, hu⟩
  have I8 := Lib.hid (I7.out.below (hu ▸ below_drewN (Below.refl _ _) n7 : Below _ _ u7))
  clear I7 hu
  go_wp2_with fail
  refine (fqpop I8.out.1).mono ?_
  intro e u8 hq
  obtain ⟨he, I9⟩ : e = .returned (.tuple #[.int .i64 1, .bool true]) ∧ Hid (FI w u8 b0 qg sb so5 3 3 [2, 3] [1, 2, 3] []) := I8.out.q hq
  subst he
  clear hq I8
  go_wp2_with fail
  refine (fspop I9.out.2.1).mono ?_
  intro e u9 hs
  obtain ⟨he, so9, I10⟩ : e = .returned (.tuple #[.int .i64 3, .bool true]) ∧ ∃ so, Hid (FI w u9 b0 qg sb so 3 3 [2, 3] [1, 2] []) := I9.out.s hs
  subst he
  clear hs I9
  go_wp2_with fail
  refine (fqfirst I10.out.1).mono ?_
  intro e u10 hf
  obtain ⟨he, n10, hu⟩ : e = .returned (.tuple #[.int .i64 2, .bool true]) ∧ ∃ m, u10 = World.drewN _ m := hf
  subst he
  have I11 := Lib.hid (I10.out.below (hu ▸ below_drewN (Below.refl _ _) n10 : Below _ _ u10))
  clear I10 hu
  go_wp2_with fail
  refine (fsfirst I11.out.2.1).mono ?_
  intro e u11 hf
  obtain ⟨he, n11, hu⟩ : e = .returned (.tuple #[.int .i64 2, .bool true]) ∧ ∃ m, u11 = World.drewN _ m := hf
  subst he
  have I12 := Lib.hid (I11.out.below (hu ▸ below_drewN (Below.refl _ _) n11 : Below _ _ u11))
  clear I11 hu
  go_wp2_with fail
  refine (I12.out.qstep 5 (by decide)).mono ?_
  intro e u12 hq
  obtain ⟨he, I13⟩ : _ ∧ Hid (FI w u12 b0 qg sb so9 3 3 [2, 3, 5] [1, 2] []) := I12.out.q hq
  subst he
  clear hq I12
  go_wp2_with fail
  refine (fqpop_nil _).mono ?_
  intro e u13 hf
  obtain ⟨he, rfl⟩ : e = .returned (.tuple #[.int .i64 0, .bool false]) ∧ _ = u13 := hf
  subst he
  go_wp2_with fail
  refine (fsfirst_nil _).mono ?_
  intro e u13 hf
  obtain ⟨he, rfl⟩ : e = .returned (.tuple #[.int .i64 0, .bool false]) ∧ _ = u13 := hf
  subst he
  go_wp2_with fail
  refine (fqlist I13.out.1).mono ?_
  rintro e u13 ⟨v13, rfl, ho, hb⟩
  have I14 := Lib.hid (I13.out.below hb)
  have L14 : Hid (Lst.Ints 0 u13 v13 [2, 3, 5]) := Lib.hid (ho.ints (by decide))
  clear ho hb I13
  go_wp2_with fail
  have LL : Hid (Lst.Ints 0 (u13.alloc (.cells #[.int .i64 2, .int .i64 3, .int .i64 5] 3)) (.slice (some ⟨u13.heap.size, 0, none⟩) 3 3) [2, 3, 5]) := Lib.hid ((Lst.lit_ints [2, 3, 5] _ _ _ (by simp) (by decide) 3 rfl).mono (Nat.zero_le _))
  refine (Lst.sameInts_yes (L14.out.below ((Below.refl _ _).alloc (Nat.le_refl _) _)) LL.out).mono ?_
  rintro e u14 ⟨rfl, n14, hu⟩
  have I15 := Lib.hid (I14.out.below (hu ▸ below_drewN ((Below.refl _ _).alloc (Nat.le_refl _) _) n14 : Below _ _ u14))
  clear I14 L14 LL hu
  go_wp2_with fail
  refine (fslist I15.out.2.1).mono ?_
  rintro e u15 ⟨v15, rfl, ho, hb⟩
  have I16 := Lib.hid (I15.out.below hb)
  have L16 : Hid (Lst.Ints 0 u15 v15 [2, 1]) := Lib.hid (ho.ints (by decide))
  clear ho hb I15
  go_wp2_with fail
  have LL : Hid (Lst.Ints 0 (u15.alloc (.cells #[.int .i64 2, .int .i64 1] 3)) (.slice (some ⟨u15.heap.size, 0, none⟩) 2 2) [2, 1]) := Lib.hid ((Lst.lit_ints [2, 1] _ _ _ (by simp) (by decide) 2 rfl).mono (Nat.zero_le _))
  refine (Lst.sameInts_yes (L16.out.below ((Below.refl _ _).alloc (Nat.le_refl _) _)) LL.out).mono ?_
  rintro e u16 ⟨rfl, n16, hu⟩
  have I17 := Lib.hid (I16.out.below (hu ▸ below_drewN ((Below.refl _ _).alloc (Nat.le_refl _) _) n16 : Below _ _ u16))
  clear I16 L16 LL hu
  go_wp2_with fail
  refine (fqroom I17.out.1).mono ?_
  intro e u17 hf
  obtain ⟨he, n17, hu⟩ : e = .returned (.int .i64 0) ∧ ∃ m, u17 = World.drewN _ m := hf
  subst he
  have I18 := Lib.hid (I17.out.below (hu ▸ below_drewN (Below.refl _ _) n17 : Below _ _ u17))
  clear I17 hu
  go_wp2_with fail
  refine (fsroom I18.out.2.1).mono ?_
  intro e u18 hf
  obtain ⟨he, n18, hu⟩ : e = .returned (.int .i64 1) ∧ ∃ m, u18 = World.drewN _ m := hf
  subst he
  have I19 := Lib.hid (I18.out.below (hu ▸ below_drewN (Below.refl _ _) n18 : Below _ _ u18))
  clear I18 hu
  go_wp2_with fail
  refine (fslen I19.out.2.1).mono ?_
  rintro e u19 ⟨rfl, rfl⟩
  go_wp2_with fail
  refine (fqpush_nil 1 _).mono ?_
  rintro e u19 ⟨rfl, n19, hu⟩
  have I20 := Lib.hid (I19.out.below (hu ▸ below_drewN (Below.refl _ _) n19 : Below _ _ u19))
  clear I19 hu
  go_wp2_with fail
  refine (fspush_nil 1 _).mono ?_
  rintro e u20 ⟨rfl, n20, hu⟩
  have I21 := Lib.hid (I20.out.below (hu ▸ below_drewN (Below.refl _ _) n20 : Below _ _ u20))
  clear I20 hu
  go_wp2_with fail
  refine (fqlen_nil _).mono ?_
  rintro e u21 ⟨rfl, rfl⟩
  go_wp2_with fail
  refine (fsroom_nil _).mono ?_
  intro e u21 hf
  obtain ⟨he, n21, hu⟩ : e = .returned (.int .i64 0) ∧ ∃ m, u21 = World.drewN _ m := hf
  subst he
  have I22 := Lib.hid (I21.out.below (hu ▸ below_drewN (Below.refl _ _) n21 : Below _ _ u21))
  clear I21 hu
  go_wp2_with fail
  refine (fqlist_nil _).mono ?_
  rintro e u22 ⟨v22, rfl, ho, hb⟩
  have I23 := Lib.hid (I22.out.below hb)
  obtain ⟨p9, c9, rfl⟩ : ∃ p c, v22 = .slice p 0 c := by
    rcases ho.form with ⟨_, h⟩ | ⟨g, cap, h, _⟩
    · exact ⟨_, _, h⟩
    · exact ⟨_, _, h⟩
  clear ho hb I22
  go_wp2
  go_ret
  exact ⟨rfl, I23.out.2.2.1⟩
end Go.Proofs.Ytpmimngngehmlaa.F
