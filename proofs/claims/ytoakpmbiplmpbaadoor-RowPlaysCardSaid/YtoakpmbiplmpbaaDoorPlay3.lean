/-
  A contract of does, its other deeds: moved, handed to itself, copied. Not a statement of the seat.
-/
import Derived.Test.YtoakpmbiplmpbaaDoorPlay2
import Derived.Deep.RegionHeld3
namespace Go.Proofs.YtoakpmbiplmpbaaDoor.Bits
open Go.ChangeShapes Go.WideShapes Go.ChangeAt Go.RowKit Base Go.Shelf
theorem minus_self (V : Nat) : minusV V V = 0 := by
  apply Nat.eq_of_testBit_eq
  intro i
  rw [minusV_testBit, Nat.zero_testBit]
  cases V.testBit i <;> rfl
theorem or_self {n V : Nat} (hV : V < 2 ^ n) : orV n V V = V := by
  apply Nat.eq_of_testBit_eq
  intro i
  rw [orV_testBit]
  by_cases h : i < n
  · rw [decide_eq_true h]; cases V.testBit i <;> rfl
  · rw [high_bit hV (by omega)]; simp
theorem len_pos {n V : Nat} (hV : V < 2 ^ n) : decide (0 < (intsOf n V).length) = decide (0 ≠ V) := by
  rw [Bool.eq_iff_iff, decide_eq_true_iff, decide_eq_true_iff]
  constructor
  · intro h e
    rw [← e, intsOf_zero] at h
    exact absurd h (by decide)
  · intro h
    rcases Nat.eq_zero_or_pos (intsOf n V).length with h0 | h0
    · have h1 : intsOf n V = intsOf n 0 := by rw [intsOf_zero]; exact List.length_eq_zero_iff.1 h0
      exact absurd (intsOf_inj hV (Nat.two_pow_pos n) h1).symm h
    · exact h0
theorem nil_ints {n V : Nat} {w : World} (h : V = 0) : Ints 0 w (.slice none 0 0) (intsOf n V) := by
  rw [h, intsOf_zero]
  exact Ints.nil
/-- The deed's box, beside what holds on the way. -/
theorem held_ds {A B : Prop} (h : A ∧ Hid B) : B := h.2.out
theorem held_start {w wx : World} {b g n V bo go no O : Nat} {v u K D N : Value} {I : Int} (h : Hid (DS w wx b g n V bo go no O v u K D (.int .i64 I) N)) : wx.drew.cell? ⟨w.heap.size, 2, none⟩ = some (.int .i64 I) ∧ Hid (DS w wx.drew b g n V bo go no O v u K D (.int .i64 I) N) :=
  ⟨(box4 h.out.2.2.2.2.2).2.2.1, Lib.hid (h.out.step (Below.refl _ _).drew)⟩
theorem held_keep {w wx w1 : World} {b g n V bo go no O : Nat} {v u K D N : Value} {I : Int} (h : wx.cell? ⟨w.heap.size, 2, none⟩ = some (.int .i64 I) ∧ Hid (DS w wx b g n V bo go no O v u K D (.int .i64 I) N)) (hb : Below wx.heap.size wx w1) : w1.cell? ⟨w.heap.size, 2, none⟩ = some (.int .i64 I) ∧ Hid (DS w w1 b g n V bo go no O v u K D (.int .i64 I) N) :=
  ⟨(box4 (h.2.out.step hb).2.2.2.2.2).2.2.1, Lib.hid (h.2.out.step hb)⟩
set_option maxHeartbeats 4000000 in
set_option maxRecDepth 100000 in
theorem does_5 (b g n V bo go no O : Nat) (v u : Value) (other : Bool) (I : Int) (on : Bool) (w : World) (h : RowAt w b g n V) (ho : RowAt w bo go no O) (hx : Ints 0 w v (intsOf n V)) (hy : Ints 0 w u (intsOf no O)) :
    Calls Tryd.prog 11 #[.pointer (some ⟨b, 0, none⟩), .pointer (some ⟨bo, 0, none⟩), v, u, .agg #[.int .i64 5, .bool other, .int .i64 I, .bool on]] w (DoesPost b g n w) := by
  have D0 := Lib.hid (DS.start (K := .int .i64 5) (D := .bool other) (I := .int .i64 I) (N := .bool on) h ho hx hy)
  have hn := h.2.2.1
  have hV := h.2.2.2
  clear h ho hx hy
  go_enter Tryd.func11, Tryd.ntmps11
  go_wp2_with fail
  refine (len_any b g n V _ D0.out.2.1).mono ?_
  rintro e x ⟨rfl, rfl⟩
  obtain ⟨c0, c1, c2, c3⟩ := box4 D0.out.2.2.2.2.2
  have hz := heap_lt D0.out.2.2.2.2.2
  clear c0 c1 c2 c3
  go_wp2_with fail
  go_region_held3 (fun w' => w'.cell? ⟨w.heap.size, 2, none⟩ = some (.int .i64 I) ∧ Hid (DS w w' b g n V bo go no O v u (.int .i64 5) (.bool other) (.int .i64 I) (.bool on)))
    (first | exact held_start D0 | exact held_keep (by assumption) (by assumption))
    ((first | (go_at_call 23; refine (moved_row b g n V I _ (held_ds (B := DS w _ b g n V bo go no O v u (.int .i64 5) (.bool other) (.int .i64 I) (.bool on)) (by assumption)).2.1).mono ?_; rintro e w1 ⟨y, z, rfl, hr, hb, hy1, hz1⟩) | (go_at_call 50; refine (moved_new (k := I) (held_ds (B := DS w _ b g n V bo go no O v u (.int .i64 5) (.bool other) (.int .i64 I) (.bool on)) (by assumption)).2.2.2.1 hn hV).mono ?_; rintro e w2 ⟨⟨xv, rfl, hxv⟩, hb2⟩)))
  have HP : Hid (DoesPost b g n w (.returned (.tuple #[.pointer (some ⟨y, 0, none⟩), xv, .bool false, .bool false])) w2) := Lib.hid ⟨y, z, movV n V I, xv, false, rfl, hr.below hb2, hxv, below_but (held_ds (B := DS w w2 b g n V bo go no O v u (.int .i64 5) (.bool other) (.int .i64 I) (.bool on)) (by assumption)).1 _, .inr ⟨Nat.le_trans D0.out.1.size hy1, Nat.le_trans D0.out.1.size hz1⟩⟩
  clear hz hr hb hb2 hxv D0 hy1 hz1
  go_wp2
  exact bodyPost_ret (by simp [results, Tryd.results11, go_sem]) rfl HP.out
set_option maxHeartbeats 4000000 in
set_option maxRecDepth 100000 in
theorem does_6t (b g n V bo go no O : Nat) (v u : Value) (other : Bool) (I : Int) (w : World) (h : RowAt w b g n V) (ho : RowAt w bo go no O) (hx : Ints 0 w v (intsOf n V)) (hy : Ints 0 w u (intsOf no O)) :
    Calls Tryd.prog 11 #[.pointer (some ⟨b, 0, none⟩), .pointer (some ⟨bo, 0, none⟩), v, u, .agg #[.int .i64 6, .bool other, .int .i64 I, .bool true]] w (DoesPost b g n w) := by
  have D0 := Lib.hid (DS.start (K := .int .i64 6) (D := .bool other) (I := .int .i64 I) (N := .bool true) h ho hx hy)
  have hn := h.2.2.1
  have hV := h.2.2.2
  clear h ho hx hy
  go_enter Tryd.func11, Tryd.ntmps11
  go_wp2_with fail
  refine (len_any b g n V _ D0.out.2.1).mono ?_
  rintro e x ⟨rfl, rfl⟩
  obtain ⟨c0, c1, c2, c3⟩ := box4 D0.out.2.2.2.2.2
  have hz := heap_lt D0.out.2.2.2.2.2
  have HL : Hid (decide (0 < (intsOf n V).length) = decide (0 ≠ V)) := Lib.hid (len_pos hV)
  obtain ⟨p, c, rfl, hll, _⟩ := D0.out.2.2.2.1.open_
  have hlv := intsOf_len n V
  go_wp2_with fail
  refine (minus_same b g n V _ D0.out.2.1).mono ?_
  rintro e w2 ⟨rfl, hr, hg⟩
  have HP : ∀ q, Hid (DoesPost b g n w (.returned (.tuple #[.pointer (some ⟨b, 0, none⟩), .slice none 0 0, .bool (decide (minusV V V ≠ V)), .bool (decide (0 < (intsOf n V).length))])) (w2.drewN q)) := fun q => Lib.hid (by
    rw [HL.out]
    have e0 := minus_self V
    refine ⟨b, g, minusV V V, _, _, by rw [e0], hr.below (below_drewN (Below.refl _ _) q), nil_ints e0, grown_then (grown_then (below_but D0.out.1 (some g)) hg) (below_but (below_drewN (Below.refl _ _) q) _), .inl ⟨rfl, rfl⟩⟩)
  have HQ := Lib.hid HP
  clear c0 c1 c2 c3 hz hr hg D0 HL HP
  generalize decide (minusV V V ≠ V) = res at HQ ⊢
  go_wp2
  exact bodyPost_ret (by simp [results, Tryd.results11, go_sem]) rfl (HQ.out 0).out
set_option maxHeartbeats 4000000 in
set_option maxRecDepth 100000 in
theorem does_6f (b g n V bo go no O : Nat) (v u : Value) (other : Bool) (I : Int) (w : World) (h : RowAt w b g n V) (ho : RowAt w bo go no O) (hx : Ints 0 w v (intsOf n V)) (hy : Ints 0 w u (intsOf no O)) :
    Calls Tryd.prog 11 #[.pointer (some ⟨b, 0, none⟩), .pointer (some ⟨bo, 0, none⟩), v, u, .agg #[.int .i64 6, .bool other, .int .i64 I, .bool false]] w (DoesPost b g n w) := by
  have D0 := Lib.hid (DS.start (K := .int .i64 6) (D := .bool other) (I := .int .i64 I) (N := .bool false) h ho hx hy)
  have hn := h.2.2.1
  have hV := h.2.2.2
  clear h ho hx hy
  go_enter Tryd.func11, Tryd.ntmps11
  go_wp2_with fail
  refine (len_any b g n V _ D0.out.2.1).mono ?_
  rintro e x ⟨rfl, rfl⟩
  obtain ⟨c0, c1, c2, c3⟩ := box4 D0.out.2.2.2.2.2
  have hz := heap_lt D0.out.2.2.2.2.2
  go_wp2_with fail
  refine (or_same b g n V _ D0.out.2.1).mono ?_
  rintro e w2 ⟨rfl, hr, hg⟩
  have eo := or_self hV
  rw [eo] at hr
  rw [show decide (orV n V V ≠ V) = false by rw [eo]; simp]
  have R2 := Lib.hid hr
  have G2 := Lib.hid (grown_then (below_but D0.out.1 (some g)) hg)
  have X2 := Lib.hid (D0.out.2.2.2.1.turned D0.out.2.1 hg)
  clear c0 c1 c2 c3 hz hr hg D0 eo
  go_wp2_with fail
  refine (and_same b g n V _ R2.out).mono ?_
  rintro e w3 ⟨rfl, hr, hg⟩
  rw [show decide ((V &&& V) ≠ V) = false by rw [Nat.and_self]; simp]
  rw [Nat.and_self] at hr
  have HP : ∀ q, Hid (DoesPost b g n w (.returned (.tuple #[.pointer (some ⟨b, 0, none⟩), v, .bool false, .bool false])) (w3.drewN q)) := fun q => Lib.hid ⟨b, g, V, _, _, rfl, hr.below (below_drewN (Below.refl _ _) q), (X2.out.turned R2.out hg).below (below_drewN (Below.refl _ _) q), grown_then (grown_then G2.out hg) (below_but (below_drewN (Below.refl _ _) q) _), .inl ⟨rfl, rfl⟩⟩
  have HQ := Lib.hid HP
  clear hr hg R2 G2 X2 HP
  go_wp2
  exact bodyPost_ret (by simp [results, Tryd.results11, go_sem]) rfl (HQ.out 0).out
set_option maxHeartbeats 4000000 in
set_option maxRecDepth 100000 in
theorem does_7 (b g n V bo go no O : Nat) (v u : Value) (other : Bool) (K I : Int) (on : Bool) (w : World) (h : RowAt w b g n V) (ho : RowAt w bo go no O) (hx : Ints 0 w v (intsOf n V)) (hy : Ints 0 w u (intsOf no O)) (k0 : (K == 0) = false) (k1 : (K == 1) = false) (k2 : (K == 2) = false) (k3 : (K == 3) = false) (k4 : (K == 4) = false) (k5 : (K == 5) = false) (k6 : (K == 6) = false) :
    Calls Tryd.prog 11 #[.pointer (some ⟨b, 0, none⟩), .pointer (some ⟨bo, 0, none⟩), v, u, .agg #[.int .i64 K, .bool other, .int .i64 I, .bool on]] w (DoesPost b g n w) := by
  have D0 := Lib.hid (DS.start (K := .int .i64 K) (D := .bool other) (I := .int .i64 I) (N := .bool on) h ho hx hy)
  have hn := h.2.2.1
  have hV := h.2.2.2
  clear h ho hx hy
  go_enter Tryd.func11, Tryd.ntmps11
  go_wp2_with fail
  refine (len_any b g n V _ D0.out.2.1).mono ?_
  rintro e x ⟨rfl, rfl⟩
  obtain ⟨c0, c1, c2, c3⟩ := box4 D0.out.2.2.2.2.2
  have hz := heap_lt D0.out.2.2.2.2.2
  go_wp2_with fail
  refine (copy_row b g n V _ D0.out.2.1).mono ?_
  rintro e w1 ⟨y, z, rfl, hr, hb, hy1, hz1⟩
  have D1 := Lib.hid (D0.out.step hb)
  have N1 : Hid (w.heap.size ≤ y ∧ w.heap.size ≤ z) := Lib.hid ⟨by simp at hy1; omega, by simp at hz1; omega⟩
  have HP : ∀ q, Hid (DoesPost b g n w (.returned (.tuple #[.pointer (some ⟨y, 0, none⟩), v, .bool false, .bool false])) (w1.drewN q)) := fun q => Lib.hid ⟨y, z, V, _, _, rfl, hr.below (below_drewN (Below.refl _ _) q), D1.out.2.2.2.1.below (below_drewN (Below.refl _ _) q), below_but (below_drewN D1.out.1 q) _, .inr N1.out⟩
  have HQ := Lib.hid HP
  clear c0 c1 c2 c3 hz hr hb hy1 hz1 D0 D1 N1 HP
  go_wp2
  exact bodyPost_ret (by simp [results, Tryd.results11, go_sem]) rfl (HQ.out 0).out
end Go.Proofs.YtoakpmbiplmpbaaDoor.Bits
