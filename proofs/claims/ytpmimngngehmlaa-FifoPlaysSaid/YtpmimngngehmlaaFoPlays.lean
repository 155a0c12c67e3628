/-
  FifoPlays: the walk. Not a statement of the seat.
-/
import Derived.Test.YtpmimngngehmlaaFoLives
import Derived.Test.YtpmimngngehmlaaFoRef
import Derived.Test.YtpmimngngehmlaaFiL
import Derived.Test.YtpmimngngehmlaaDs8
namespace Go.Proofs.Ytpmimngngehmlaa.F
open Go.ChangeShapes Go.WideShapes Go.ChangeAt Go.RowKit Base
theorem nil_or_snoc (l : List Int) : l = [] ∨ ∃ ys x, l = ys ++ [x] := by
  rcases List.eq_nil_or_concat l with h | ⟨ys, x, h⟩
  · exact .inl h
  · exact .inr ⟨ys, x, by rw [h, List.concat_eq_append]⟩
set_option maxRecDepth 100000 in
set_option maxHeartbeats 40000000 in
theorem foplays (room : Int) (v : Value) (zs : List (Int × Bool × Int)) (w : World) (hi : Ds8 w v zs) :
    Calls Try.prog 8 #[.int .i64 room, v] w fun e w' => e = .returned (.bool true) ∧ Below w.heap.size w w' := by
  obtain ⟨p, c, rfl, hl, hc⟩ := hi
  have HC := Lib.hid hc
  clear hc
  by_cases h1 : 120 < zs.length
  · have d1 : (120 : Int) < (zs.length : Int) := by omega
    go_enter Try.func8, Try.ntmps8
    go_wp2_with fail
    refine (fqnew room w).mono ?_
    intro e w2 hq
    have H1 := Lib.hid hq
    obtain ⟨b0, g0, rfl, _⟩ := hq
    go_wp2_with fail
    refine (fsnew room w2).mono ?_
    intro e w3 hs
    obtain ⟨qb, qg, sb, e1, rfl, I0⟩ := FI.new H1.out hs
    injection e1 with e1; injection e1 with e1; injection e1 with e1; injection e1 with e1
    subst e1
    clear hs H1
    go_wp2_with fail
    refine (folives _).mono ?_
    rintro e wl ⟨rfl, hb⟩
    have HB := Lib.hid (I0.out.2.2.1.trans (hb.mono I0.out.2.2.1.size))
    clear hb
    go_wp2
    go_ret
    exact ⟨rfl, HB.out⟩
  · have d1 : decide ((120 : Int) < (zs.length : Int)) = false := by rw [decide_eq_false_iff_not]; omega
    have hz : (zs.length : Int) ≤ 120 := by omega
    go_enter Try.func8, Try.ntmps8
    go_wp2_with fail
    refine (fqnew room w).mono ?_
    intro e w2 hq
    have H1 := Lib.hid hq
    obtain ⟨b0, g0, rfl, _⟩ := hq
    go_wp2_with fail
    refine (fsnew room w2).mono ?_
    intro e w3 hs
    obtain ⟨qb, qg, sb, e1, rfl, I0⟩ := FI.new H1.out hs
    injection e1 with e1; injection e1 with e1; injection e1 with e1; injection e1 with e1
    subst e1
    clear hs H1
    go_wp2_with fail
    have HRM := Lib.hid (room_ref room)
    have hR : (roomOf room : Int) ≤ 65536 := by have := roomOf_le room; omega
    generalize roomOf room = R at I0 HRM hR
    refine (HRM.out _).mono ?_
    rintro e wl ⟨rfl, rfl⟩
    clear HRM
    go_wp2_with fail
    go_loopw [8, 9, 47] (fun s8 s9 s47 wr => ∃ (i : Nat) (so : Option Nat) (xa xb : List Int) (bs : List (Nat × Obj)), s47 = .int .i64 (i : Int) ∧ i ≤ zs.length ∧ Hid (FI w wr b0 qg sb so R R xa xb bs) ∧ Hid (LI bs s8 xa) ∧ Hid (LI bs s9 xb.reverse)) (fun _ _ s47 _ => zs.length - (intOf s47).toNat)
    case atStart => exact ⟨0, none, [], [], [], rfl, Nat.zero_le _, I0, Lib.hid (LI.nil _), Lib.hid (LI.nil _)⟩
    case round =>
      clear I0
      obtain ⟨i, so, xa, xb, bs, rfl, hi, I0, LA, LB⟩ := hrel
      have hxa : (xa.length : Int) ≤ (R : Int) := by have := I0.out.1.2.1; omega
      have hxb : (xb.length : Int) ≤ (R : Int) := by have := I0.out.2.1.2.1; omega
      by_cases hlt : i < zs.length
      · obtain ⟨g, o, rfl, hg, K, S, X, _, q0, q1, q2⟩ := HC.out i hlt
        have hB := I0.out.2.2.1
        have c0 : wr.cell? ⟨g, o + i * 3, none⟩ = some (.int .i64 K) := (hB.cell (p := ⟨g, o + i * 3, none⟩) hg).trans q0
        have c1 : wr.cell? ⟨g, o + i * 3 + 1, none⟩ = some (.bool S) := (hB.cell (p := ⟨g, o + i * 3 + 1, none⟩) hg).trans q1
        have c2 : wr.cell? ⟨g, o + i * 3 + 2, none⟩ = some (.int .i64 X) := (hB.cell (p := ⟨g, o + i * 3 + 2, none⟩) hg).trans q2
        have hgs : g < wr.heap.size := Nat.lt_of_lt_of_le hg hB.size
        clear q0 q1 q2 hB
        cases S with
        | false =>
          by_cases hK : K < 3
          · by_cases hF : R ≤ xa.length
            · obtain ⟨pa, ca, hva, hpa, hca⟩ := LA.out.form
              obtain ⟨pb, cb, hvb, hpb, hcb⟩ := LB.out.form
              rw [List.length_reverse] at hvb
              subst hva hvb
              have hI : Hid (FI w (wr.alloc (.cells #[.int .i64 K, .bool false, .int .i64 X] 85)) b0 qg sb so R R xa xb ((wr.heap.size, box8 K false X) :: bs)) := Lib.hid (I0.out.add (box8 K false X))
              have I1 := hI
              clear hI
              have hfl : decide ((xa.length : Int) < (R : Int)) = false := by rw [decide_eq_false_iff_not]; omega
              have hfull : xa.length = R := by have := I1.out.1.2.1; omega
              go_wp2_with fail
              refine (fqpush_full I1.out.1 hfull X).mono ?_
              rintro e u1 ⟨rfl, m1, hu⟩
              have I2 := Lib.hid (I1.out.below (hu ▸ below_drewN (Below.refl _ _) m1 : Below _ _ u1))
              clear I1 hu
              obtain ⟨hbx, e0, e1, e2⟩ := cells8 (I2.out.2.2.2.2.2 (wr.heap.size, box8 K false X) (by simp)).1
              clear hfull
              obtain ⟨ya, hya0⟩ : ∃ ya, ya = xa := ⟨_, rfl⟩
              obtain ⟨yb, hyb0⟩ : ∃ yb, yb = xb := ⟨_, rfl⟩
              subst hya0 hyb0
              have LA0 := Lib.hid (LA.out.mono (bs' := (wr.heap.size, box8 K false X) :: bs) (fun p hp => List.mem_cons_of_mem _ hp))
              have LB0 := Lib.hid (LB.out.mono (bs' := (wr.heap.size, box8 K false X) :: bs) (fun p hp => List.mem_cons_of_mem _ hp))
              clear LA LB
              have LA := LA0
              have LB := LB0
              clear LA0 LB0
              have hya : (ya.length : Int) ≤ (R : Int) := by have := I2.out.1.2.1; omega
              have hyb : (yb.length : Int) ≤ (R : Int) := by have := I2.out.2.1.2.1; omega
              go_wp2_with fail
              refine (fqlen I2.out.1).mono ?_
              rintro e v1 ⟨rfl, rfl⟩
              go_wp2_with fail
              refine (fslen I2.out.2.1).mono ?_
              rintro e v2 ⟨rfl, rfl⟩
              go_wp2_with fail
              refine (fqroom I2.out.1).mono ?_
              rintro e u2 ⟨rfl, m2, hu⟩
              have I3 := Lib.hid (I2.out.below (hu ▸ below_drewN (Below.refl _ _) m2 : Below _ _ u2))
              clear I2 hu
              go_wp2_with fail
              refine (fsroom I3.out.2.1).mono ?_
              rintro e u3 ⟨rfl, m3, hu⟩
              have I4 := Lib.hid (I3.out.below (hu ▸ below_drewN (Below.refl _ _) m3 : Below _ _ u3))
              clear I3 hu
              go_wp2_with fail
              refine (fqlist I4.out.1).mono ?_
              rintro e u4 ⟨vl, rfl, ho, hb⟩
              have I5 := Lib.hid (I4.out.below hb)
              have HL : Hid (Lst.Ints 0 u4 vl (ya)) := Lib.hid (ho.ints (by omega))
              clear ho hb I4
              go_wp2_with fail
              refine (Lst.sameInts_yes HL.out (LA.out.ints (fun p hp => (I5.out.2.2.2.2.2 p hp).1) (by omega))).mono ?_
              rintro e u5 ⟨rfl, m5, hu⟩
              have I6 := Lib.hid (I5.out.below (hu ▸ below_drewN (Below.refl _ _) m5 : Below _ _ u5))
              clear I5 hu HL
              go_wp2_with fail
              refine (fslist I6.out.2.1).mono ?_
              rintro e u6 ⟨vl, rfl, ho, hb⟩
              have I7 := Lib.hid (I6.out.below hb)
              have HL : Hid (Lst.Ints 0 u6 vl (yb.reverse)) := Lib.hid (ho.ints (by rw [List.length_reverse]; omega))
              clear ho hb I6
              go_wp2_with fail
              refine (Lst.sameInts_yes HL.out (LB.out.ints (fun p hp => (I7.out.2.2.2.2.2 p hp).1) (by rw [List.length_reverse]; omega))).mono ?_
              rintro e u7 ⟨rfl, m7, hu⟩
              have I8 := Lib.hid (I7.out.below (hu ▸ below_drewN (Below.refl _ _) m7 : Below _ _ u7))
              clear I7 hu HL
              go_wp2
              go_roundw
              case rel => exact ⟨i + 1, so, ya, yb, (wr.heap.size, box8 K false X) :: bs, by go_num, by omega, I8, LA, LB⟩
              case measure => simp [intOf]; omega
            · obtain ⟨pa, ca, hva, hpa, hca⟩ := LA.out.form
              obtain ⟨pb, cb, hvb, hpb, hcb⟩ := LB.out.form
              rw [List.length_reverse] at hvb
              subst hva hvb
              have hI : Hid (FI w (wr.alloc (.cells #[.int .i64 K, .bool false, .int .i64 X] 85)) b0 qg sb so R R xa xb ((wr.heap.size, box8 K false X) :: bs)) := Lib.hid (I0.out.add (box8 K false X))
              have I1 := hI
              clear hI
              have hfl : (xa.length : Int) < (R : Int) := by omega
              have hlt2 : xa.length < R := by omega
              go_wp2_with fail
              refine (fqpush_ok I1.out.1 hlt2 X).mono ?_
              intro e u1 hq
              obtain ⟨he, I2⟩ := I1.out.q hq
              subst he
              clear hq I1
              obtain ⟨hbx, e0, e1, e2⟩ := cells8 (I2.out.2.2.2.2.2 (wr.heap.size, box8 K false X) (by simp)).1
              obtain ⟨y, hy⟩ : ∃ y, y = xa ++ [X] := ⟨_, rfl⟩
              rw [← hy] at I2
              go_wp2_with fail
              refine (foref X false (LA.out.ints (fun p hp => (I2.out.2.2.2.2.2 p (by simp [hp])).1) (by omega)) LA.out.cap0 (by omega)).mono ?_
              rintro e u2 ⟨vl, rfl, ho, hb⟩
              rw [if_neg (by simp), ← hy] at ho
              obtain ⟨nb, I3, LN⟩ := I2.out.list ho hb
              clear ho hb I2 hbx e0 e1 e2
              obtain ⟨hbx, e0, e1, e2⟩ := cells8 (I3.out.2.2.2.2.2 (wr.heap.size, box8 K false X) (by simp)).1
              obtain ⟨pn, cn, hvn, hpn, hcn⟩ := LN.out.form
              subst hvn
              have LA0 := Lib.hid (LN.out.mono (bs' := nb ++ (wr.heap.size, box8 K false X) :: bs) (fun p hp => List.mem_append_left _ hp))
              have LB0 := Lib.hid (LB.out.mono (bs' := nb ++ (wr.heap.size, box8 K false X) :: bs) (fun p hp => List.mem_append_right _ (List.mem_cons_of_mem _ hp)))
              clear LA LB LN
              have LA := LA0
              have LB := LB0
              clear LA0 LB0 hy
              obtain ⟨ya, hy0⟩ : ∃ z, z = y := ⟨_, rfl⟩
              obtain ⟨yb, hy1⟩ : ∃ z, z = xb := ⟨_, rfl⟩
              subst hy0 hy1
              have hya : (ya.length : Int) ≤ (R : Int) := by have := I3.out.1.2.1; omega
              have hyb : (yb.length : Int) ≤ (R : Int) := by have := I3.out.2.1.2.1; omega
              go_wp2_with fail
              refine (fqlen I3.out.1).mono ?_
              rintro e v1 ⟨rfl, rfl⟩
              go_wp2_with fail
              refine (fslen I3.out.2.1).mono ?_
              rintro e v2 ⟨rfl, rfl⟩
              go_wp2_with fail
              refine (fqroom I3.out.1).mono ?_
              rintro e u3 ⟨rfl, m3, hu⟩
              have I4 := Lib.hid (I3.out.below (hu ▸ below_drewN (Below.refl _ _) m3 : Below _ _ u3))
              clear I3 hu
              go_wp2_with fail
              refine (fsroom I4.out.2.1).mono ?_
              rintro e u4 ⟨rfl, m4, hu⟩
              have I5 := Lib.hid (I4.out.below (hu ▸ below_drewN (Below.refl _ _) m4 : Below _ _ u4))
              clear I4 hu
              go_wp2_with fail
              refine (fqlist I5.out.1).mono ?_
              rintro e u5 ⟨vl, rfl, ho, hb⟩
              have I6 := Lib.hid (I5.out.below hb)
              have HL : Hid (Lst.Ints 0 u5 vl (ya)) := Lib.hid (ho.ints (by omega))
              clear ho hb I5
              go_wp2_with fail
              refine (Lst.sameInts_yes HL.out (LA.out.ints (fun p hp => (I6.out.2.2.2.2.2 p hp).1) (by omega))).mono ?_
              rintro e u6 ⟨rfl, m6, hu⟩
              have I7 := Lib.hid (I6.out.below (hu ▸ below_drewN (Below.refl _ _) m6 : Below _ _ u6))
              clear I6 hu HL
              go_wp2_with fail
              refine (fslist I7.out.2.1).mono ?_
              rintro e u7 ⟨vl, rfl, ho, hb⟩
              have I8 := Lib.hid (I7.out.below hb)
              have HL : Hid (Lst.Ints 0 u7 vl (yb.reverse)) := Lib.hid (ho.ints (by rw [List.length_reverse]; omega))
              clear ho hb I7
              go_wp2_with fail
              refine (Lst.sameInts_yes HL.out (LB.out.ints (fun p hp => (I8.out.2.2.2.2.2 p hp).1) (by rw [List.length_reverse]; omega))).mono ?_
              rintro e u8 ⟨rfl, m8, hu⟩
              have I9 := Lib.hid (I8.out.below (hu ▸ below_drewN (Below.refl _ _) m8 : Below _ _ u8))
              clear I8 hu HL
              go_wp2
              go_roundw
              case rel => exact ⟨i + 1, so, ya, yb, nb ++ (wr.heap.size, box8 K false X) :: bs, by go_num, by omega, I9, LA, LB⟩
              case measure => simp [intOf]; omega
          · have dK : decide (K < 3) = false := by rw [decide_eq_false_iff_not]; exact hK
            rcases (show xa = [] ∨ ∃ x ys, xa = x :: ys by cases xa with | nil => exact .inl rfl | cons x ys => exact .inr ⟨x, ys, rfl⟩) with hx0 | hx0
            · obtain ⟨pa, ca, hva, hpa, hca⟩ := LA.out.form
              obtain ⟨pb, cb, hvb, hpb, hcb⟩ := LB.out.form
              rw [List.length_reverse] at hvb
              subst hva hvb
              have hI : Hid (FI w (wr.alloc (.cells #[.int .i64 K, .bool false, .int .i64 X] 85)) b0 qg sb so R R xa xb ((wr.heap.size, box8 K false X) :: bs)) := Lib.hid (I0.out.add (box8 K false X))
              have I1 := hI
              clear hI
              subst hx0
              go_wp2_with fail
              refine (fqfirst I1.out.1).mono ?_
              intro e u1 hf
              obtain ⟨he, m1, hu⟩ : e = .returned (.tuple #[.int .i64 0, .bool false]) ∧ ∃ m, u1 = World.drewN _ m := hf
              subst he
              have I2 := Lib.hid (I1.out.below (hu ▸ below_drewN (Below.refl _ _) m1 : Below _ _ u1))
              clear I1 hu
              obtain ⟨hbx, e0, e1, e2⟩ := cells8 (I2.out.2.2.2.2.2 (wr.heap.size, box8 K false X) (by simp)).1
              go_wp2_with fail
              refine (fqpop I2.out.1).mono ?_
              intro e u2 hq
              obtain ⟨he, I3⟩ : e = .returned (.tuple #[.int .i64 0, .bool false]) ∧ Hid (FI w u2 b0 qg sb so R R [] xb ((wr.heap.size, box8 K false X) :: bs)) := I2.out.q hq
              subst he
              clear hq I2 hbx e0 e1 e2
              obtain ⟨hbx, e0, e1, e2⟩ := cells8 (I3.out.2.2.2.2.2 (wr.heap.size, box8 K false X) (by simp)).1
              have LA0 := Lib.hid (LA.out.mono (bs' := (wr.heap.size, box8 K false X) :: bs) (fun p hp => List.mem_cons_of_mem _ hp))
              have LB0 := Lib.hid (LB.out.mono (bs' := (wr.heap.size, box8 K false X) :: bs) (fun p hp => List.mem_cons_of_mem _ hp))
              clear LA LB
              have LA := LA0
              have LB := LB0
              clear LA0 LB0
              obtain ⟨yb, hy0⟩ : ∃ z : List Int, z = xb := ⟨_, rfl⟩
              subst hy0
              have hyb : (yb.length : Int) ≤ (R : Int) := by have := I3.out.2.1.2.1; omega
              go_wp2_with fail
              refine (fqlen I3.out.1).mono ?_
              rintro e v1 ⟨rfl, rfl⟩
              go_wp2_with fail
              refine (fslen I3.out.2.1).mono ?_
              rintro e v2 ⟨rfl, rfl⟩
              go_wp2_with fail
              refine (fqroom I3.out.1).mono ?_
              rintro e u3 ⟨rfl, m3, hu⟩
              have I4 := Lib.hid (I3.out.below (hu ▸ below_drewN (Below.refl _ _) m3 : Below _ _ u3))
              clear I3 hu
              go_wp2_with fail
              refine (fsroom I4.out.2.1).mono ?_
              rintro e u4 ⟨rfl, m4, hu⟩
              have I5 := Lib.hid (I4.out.below (hu ▸ below_drewN (Below.refl _ _) m4 : Below _ _ u4))
              clear I4 hu
              go_wp2_with fail
              refine (fqlist I5.out.1).mono ?_
              rintro e u5 ⟨vl, rfl, ho, hb⟩
              have I6 := Lib.hid (I5.out.below hb)
              have HL : Hid (Lst.Ints 0 u5 vl (([] : List Int))) := Lib.hid (ho.ints (by omega))
              clear ho hb I5
              go_wp2_with fail
              refine (Lst.sameInts_yes HL.out (LA.out.ints (fun p hp => (I6.out.2.2.2.2.2 p hp).1) (by omega))).mono ?_
              rintro e u6 ⟨rfl, m6, hu⟩
              have I7 := Lib.hid (I6.out.below (hu ▸ below_drewN (Below.refl _ _) m6 : Below _ _ u6))
              clear I6 hu HL
              go_wp2_with fail
              refine (fslist I7.out.2.1).mono ?_
              rintro e u7 ⟨vl, rfl, ho, hb⟩
              have I8 := Lib.hid (I7.out.below hb)
              have HL : Hid (Lst.Ints 0 u7 vl (yb.reverse)) := Lib.hid (ho.ints (by rw [List.length_reverse]; omega))
              clear ho hb I7
              go_wp2_with fail
              refine (Lst.sameInts_yes HL.out (LB.out.ints (fun p hp => (I8.out.2.2.2.2.2 p hp).1) (by rw [List.length_reverse]; omega))).mono ?_
              rintro e u8 ⟨rfl, m8, hu⟩
              have I9 := Lib.hid (I8.out.below (hu ▸ below_drewN (Below.refl _ _) m8 : Below _ _ u8))
              clear I8 hu HL
              go_wp2
              go_roundw
              case rel => exact ⟨i + 1, so, ([] : List Int), yb, (wr.heap.size, box8 K false X) :: bs, by go_num, by omega, I9, LA, LB⟩
              case measure => simp [intOf]; omega
            · obtain ⟨pa, ca, hva, hpa, hca⟩ := LA.out.form
              obtain ⟨pb, cb, hvb, hpb, hcb⟩ := LB.out.form
              rw [List.length_reverse] at hvb
              obtain ⟨ml, hml⟩ : ∃ m, m = xa.length := ⟨_, rfl⟩
              rw [← hml] at hva
              have HML := Lib.hid hml
              clear hml hca
              subst hva hvb
              have hI : Hid (FI w (wr.alloc (.cells #[.int .i64 K, .bool false, .int .i64 X] 85)) b0 qg sb so R R xa xb ((wr.heap.size, box8 K false X) :: bs)) := Lib.hid (I0.out.add (box8 K false X))
              have I1 := hI
              clear hI
              obtain ⟨x, ys, rfl⟩ := hx0
              have hgt : (0 : Int) < (ml : Int) := by rw [HML.out]; simp
              have LA1 := Lib.hid LA.out
              obtain ⟨gl, ol, rfl, hcl, pt, ct, hsl, HT0⟩ := LA1.out.tail (by have := I1.out.1.1; have := I1.out.1.2.1; simp at this; omega)
              have HT := Lib.hid HT0
              have HCL := Lib.hid hcl
              clear HT0 hcl LA1
              go_wp2_with fail
              refine (fqfirst I1.out.1).mono ?_
              intro e u1 hf
              obtain ⟨he, m1, hu⟩ : e = .returned (.tuple #[.int .i64 x, .bool true]) ∧ ∃ m, u1 = World.drewN _ m := hf
              subst he
              have I2 := Lib.hid (I1.out.below (hu ▸ below_drewN (Below.refl _ _) m1 : Below _ _ u1))
              clear I1 hu
              obtain ⟨hbx, e0, e1, e2⟩ := cells8 (I2.out.2.2.2.2.2 (wr.heap.size, box8 K false X) (by simp)).1
              go_wp2_with fail
              refine (fqpop I2.out.1).mono ?_
              intro e u2 hq
              obtain ⟨he, I3⟩ : e = .returned (.tuple #[.int .i64 x, .bool true]) ∧ Hid (FI w u2 b0 qg sb so R R ys xb ((wr.heap.size, box8 K false X) :: bs)) := I2.out.q hq
              subst he
              clear hq I2 hbx e0 e1 e2
              obtain ⟨hbx, e0, e1, e2⟩ := cells8 (I3.out.2.2.2.2.2 (wr.heap.size, box8 K false X) (by simp)).1
              obtain ⟨hgl, ccl⟩ := HCL.out u2 (fun p hp => (I3.out.2.2.2.2.2 p (List.mem_cons_of_mem _ hp)).1)
              clear LA
              have LA := HT
              clear HT HCL
              have LA0 := Lib.hid (LA.out.mono (bs' := (wr.heap.size, box8 K false X) :: bs) (fun p hp => List.mem_cons_of_mem _ hp))
              have LB0 := Lib.hid (LB.out.mono (bs' := (wr.heap.size, box8 K false X) :: bs) (fun p hp => List.mem_cons_of_mem _ hp))
              clear LA LB
              have LA := LA0
              have LB := LB0
              clear LA0 LB0
              obtain ⟨ya, hy0⟩ : ∃ z : List Int, z = ys := ⟨_, rfl⟩
              obtain ⟨yb, hy1⟩ : ∃ z : List Int, z = xb := ⟨_, rfl⟩
              subst hy0 hy1
              have hya : (ya.length : Int) ≤ (R : Int) := by have := I3.out.1.2.1; omega
              have hyb : (yb.length : Int) ≤ (R : Int) := by have := I3.out.2.1.2.1; omega
              go_wp2_with fail
              refine (fqlen I3.out.1).mono ?_
              rintro e v1 ⟨rfl, rfl⟩
              go_wp2_with fail
              refine (fslen I3.out.2.1).mono ?_
              rintro e v2 ⟨rfl, rfl⟩
              go_wp2_with fail
              refine (fqroom I3.out.1).mono ?_
              rintro e u3 ⟨rfl, m3, hu⟩
              have I4 := Lib.hid (I3.out.below (hu ▸ below_drewN (Below.refl _ _) m3 : Below _ _ u3))
              clear I3 hu
              go_wp2_with fail
              refine (fsroom I4.out.2.1).mono ?_
              rintro e u4 ⟨rfl, m4, hu⟩
              have I5 := Lib.hid (I4.out.below (hu ▸ below_drewN (Below.refl _ _) m4 : Below _ _ u4))
              clear I4 hu
              go_wp2_with fail
              refine (fqlist I5.out.1).mono ?_
              rintro e u5 ⟨vl, rfl, ho, hb⟩
              have I6 := Lib.hid (I5.out.below hb)
              have HL : Hid (Lst.Ints 0 u5 vl (ya)) := Lib.hid (ho.ints (by omega))
              clear ho hb I5
              go_wp2_with fail
              refine (Lst.sameInts_yes HL.out (LA.out.ints (fun p hp => (I6.out.2.2.2.2.2 p hp).1) (by omega))).mono ?_
              rintro e u6 ⟨rfl, m6, hu⟩
              have I7 := Lib.hid (I6.out.below (hu ▸ below_drewN (Below.refl _ _) m6 : Below _ _ u6))
              clear I6 hu HL
              go_wp2_with fail
              refine (fslist I7.out.2.1).mono ?_
              rintro e u7 ⟨vl, rfl, ho, hb⟩
              have I8 := Lib.hid (I7.out.below hb)
              have HL : Hid (Lst.Ints 0 u7 vl (yb.reverse)) := Lib.hid (ho.ints (by rw [List.length_reverse]; omega))
              clear ho hb I7
              go_wp2_with fail
              refine (Lst.sameInts_yes HL.out (LB.out.ints (fun p hp => (I8.out.2.2.2.2.2 p hp).1) (by rw [List.length_reverse]; omega))).mono ?_
              rintro e u8 ⟨rfl, m8, hu⟩
              have I9 := Lib.hid (I8.out.below (hu ▸ below_drewN (Below.refl _ _) m8 : Below _ _ u8))
              clear I8 hu HL
              go_wp2
              go_roundw
              case rel => exact ⟨i + 1, so, ya, yb, (wr.heap.size, box8 K false X) :: bs, by go_num, by omega, I9, LA, LB⟩
              case measure => simp [intOf]; omega
        | true =>
          by_cases hK : K < 3
          · by_cases hF : R ≤ xb.length
            · obtain ⟨pa, ca, hva, hpa, hca⟩ := LA.out.form
              obtain ⟨pb, cb, hvb, hpb, hcb⟩ := LB.out.form
              rw [List.length_reverse] at hvb
              subst hva hvb
              have hI : Hid (FI w (wr.alloc (.cells #[.int .i64 K, .bool true, .int .i64 X] 85)) b0 qg sb so R R xa xb ((wr.heap.size, box8 K true X) :: bs)) := Lib.hid (I0.out.add (box8 K true X))
              have I1 := hI
              clear hI
              have hfl : decide ((xb.length : Int) < (R : Int)) = false := by rw [decide_eq_false_iff_not]; omega
              have hfull : xb.length = R := by have := I1.out.2.1.2.1; omega
              go_wp2_with fail
              refine (fspush_full I1.out.2.1 hfull X).mono ?_
              rintro e u1 ⟨rfl, m1, hu⟩
              have I2 := Lib.hid (I1.out.below (hu ▸ below_drewN (Below.refl _ _) m1 : Below _ _ u1))
              clear I1 hu
              obtain ⟨hbx, e0, e1, e2⟩ := cells8 (I2.out.2.2.2.2.2 (wr.heap.size, box8 K true X) (by simp)).1
              clear hfull
              obtain ⟨ya, hya0⟩ : ∃ ya, ya = xa := ⟨_, rfl⟩
              obtain ⟨yb, hyb0⟩ : ∃ yb, yb = xb := ⟨_, rfl⟩
              subst hya0 hyb0
              have LA0 := Lib.hid (LA.out.mono (bs' := (wr.heap.size, box8 K true X) :: bs) (fun p hp => List.mem_cons_of_mem _ hp))
              have LB0 := Lib.hid (LB.out.mono (bs' := (wr.heap.size, box8 K true X) :: bs) (fun p hp => List.mem_cons_of_mem _ hp))
              clear LA LB
              have LA := LA0
              have LB := LB0
              clear LA0 LB0
              have hya : (ya.length : Int) ≤ (R : Int) := by have := I2.out.1.2.1; omega
              have hyb : (yb.length : Int) ≤ (R : Int) := by have := I2.out.2.1.2.1; omega
              go_wp2_with fail
              refine (fqlen I2.out.1).mono ?_
              rintro e v1 ⟨rfl, rfl⟩
              go_wp2_with fail
              refine (fslen I2.out.2.1).mono ?_
              rintro e v2 ⟨rfl, rfl⟩
              go_wp2_with fail
              refine (fqroom I2.out.1).mono ?_
              rintro e u2 ⟨rfl, m2, hu⟩
              have I3 := Lib.hid (I2.out.below (hu ▸ below_drewN (Below.refl _ _) m2 : Below _ _ u2))
              clear I2 hu
              go_wp2_with fail
              refine (fsroom I3.out.2.1).mono ?_
              rintro e u3 ⟨rfl, m3, hu⟩
              have I4 := Lib.hid (I3.out.below (hu ▸ below_drewN (Below.refl _ _) m3 : Below _ _ u3))
              clear I3 hu
              go_wp2_with fail
              refine (fqlist I4.out.1).mono ?_
              rintro e u4 ⟨vl, rfl, ho, hb⟩
              have I5 := Lib.hid (I4.out.below hb)
              have HL : Hid (Lst.Ints 0 u4 vl (ya)) := Lib.hid (ho.ints (by omega))
              clear ho hb I4
              go_wp2_with fail
              refine (Lst.sameInts_yes HL.out (LA.out.ints (fun p hp => (I5.out.2.2.2.2.2 p hp).1) (by omega))).mono ?_
              rintro e u5 ⟨rfl, m5, hu⟩
              have I6 := Lib.hid (I5.out.below (hu ▸ below_drewN (Below.refl _ _) m5 : Below _ _ u5))
              clear I5 hu HL
              go_wp2_with fail
              refine (fslist I6.out.2.1).mono ?_
              rintro e u6 ⟨vl, rfl, ho, hb⟩
              have I7 := Lib.hid (I6.out.below hb)
              have HL : Hid (Lst.Ints 0 u6 vl (yb.reverse)) := Lib.hid (ho.ints (by rw [List.length_reverse]; omega))
              clear ho hb I6
              go_wp2_with fail
              refine (Lst.sameInts_yes HL.out (LB.out.ints (fun p hp => (I7.out.2.2.2.2.2 p hp).1) (by rw [List.length_reverse]; omega))).mono ?_
              rintro e u7 ⟨rfl, m7, hu⟩
              have I8 := Lib.hid (I7.out.below (hu ▸ below_drewN (Below.refl _ _) m7 : Below _ _ u7))
              clear I7 hu HL
              go_wp2
              go_roundw
              case rel => exact ⟨i + 1, so, ya, yb, (wr.heap.size, box8 K true X) :: bs, by go_num, by omega, I8, LA, LB⟩
              case measure => simp [intOf]; omega
            · obtain ⟨pa, ca, hva, hpa, hca⟩ := LA.out.form
              obtain ⟨pb, cb, hvb, hpb, hcb⟩ := LB.out.form
              rw [List.length_reverse] at hvb
              subst hva hvb
              have hI : Hid (FI w (wr.alloc (.cells #[.int .i64 K, .bool true, .int .i64 X] 85)) b0 qg sb so R R xa xb ((wr.heap.size, box8 K true X) :: bs)) := Lib.hid (I0.out.add (box8 K true X))
              have I1 := hI
              clear hI
              have hfl : (xb.length : Int) < (R : Int) := by omega
              have hlt2 : xb.length < R := by omega
              go_wp2_with fail
              refine (fspush_ok I1.out.2.1 hlt2 X).mono ?_
              intro e u1 hs
              obtain ⟨he, so2, I2⟩ := I1.out.s hs
              subst he
              clear hs I1
              obtain ⟨hbx, e0, e1, e2⟩ := cells8 (I2.out.2.2.2.2.2 (wr.heap.size, box8 K true X) (by simp)).1
              obtain ⟨y, hy⟩ : ∃ y, y = xb ++ [X] := ⟨_, rfl⟩
              rw [← hy] at I2
              go_wp2_with fail
              refine (foref X true (LB.out.ints (fun p hp => (I2.out.2.2.2.2.2 p (by simp [hp])).1) (by rw [List.length_reverse]; omega)) LB.out.cap0 (by rw [List.length_reverse]; omega)).mono ?_
              rintro e u2 ⟨vl, rfl, ho, hb⟩
              rw [if_pos rfl, show X :: xb.reverse = y.reverse by rw [hy]; simp] at ho
              obtain ⟨nb, I3, LN⟩ := I2.out.list ho hb
              clear ho hb I2 hbx e0 e1 e2
              obtain ⟨hbx, e0, e1, e2⟩ := cells8 (I3.out.2.2.2.2.2 (wr.heap.size, box8 K true X) (by simp)).1
              obtain ⟨pn, cn, hvn, hpn, hcn⟩ := LN.out.form
              rw [List.length_reverse] at hvn
              subst hvn
              have LB0 := Lib.hid (LN.out.mono (bs' := nb ++ (wr.heap.size, box8 K true X) :: bs) (fun p hp => List.mem_append_left _ hp))
              have LA0 := Lib.hid (LA.out.mono (bs' := nb ++ (wr.heap.size, box8 K true X) :: bs) (fun p hp => List.mem_append_right _ (List.mem_cons_of_mem _ hp)))
              clear LA LB LN
              have LA := LA0
              have LB := LB0
              clear LA0 LB0 hy
              obtain ⟨yb, hy0⟩ : ∃ z, z = y := ⟨_, rfl⟩
              obtain ⟨ya, hy1⟩ : ∃ z, z = xa := ⟨_, rfl⟩
              subst hy0 hy1
              have hya : (ya.length : Int) ≤ (R : Int) := by have := I3.out.1.2.1; omega
              have hyb : (yb.length : Int) ≤ (R : Int) := by have := I3.out.2.1.2.1; omega
              go_wp2_with fail
              refine (fqlen I3.out.1).mono ?_
              rintro e v1 ⟨rfl, rfl⟩
              go_wp2_with fail
              refine (fslen I3.out.2.1).mono ?_
              rintro e v2 ⟨rfl, rfl⟩
              go_wp2_with fail
              refine (fqroom I3.out.1).mono ?_
              rintro e u3 ⟨rfl, m3, hu⟩
              have I4 := Lib.hid (I3.out.below (hu ▸ below_drewN (Below.refl _ _) m3 : Below _ _ u3))
              clear I3 hu
              go_wp2_with fail
              refine (fsroom I4.out.2.1).mono ?_
              rintro e u4 ⟨rfl, m4, hu⟩
              have I5 := Lib.hid (I4.out.below (hu ▸ below_drewN (Below.refl _ _) m4 : Below _ _ u4))
              clear I4 hu
              go_wp2_with fail
              refine (fqlist I5.out.1).mono ?_
              rintro e u5 ⟨vl, rfl, ho, hb⟩
              have I6 := Lib.hid (I5.out.below hb)
              have HL : Hid (Lst.Ints 0 u5 vl (ya)) := Lib.hid (ho.ints (by omega))
              clear ho hb I5
              go_wp2_with fail
              refine (Lst.sameInts_yes HL.out (LA.out.ints (fun p hp => (I6.out.2.2.2.2.2 p hp).1) (by omega))).mono ?_
              rintro e u6 ⟨rfl, m6, hu⟩
              have I7 := Lib.hid (I6.out.below (hu ▸ below_drewN (Below.refl _ _) m6 : Below _ _ u6))
              clear I6 hu HL
              go_wp2_with fail
              refine (fslist I7.out.2.1).mono ?_
              rintro e u7 ⟨vl, rfl, ho, hb⟩
              have I8 := Lib.hid (I7.out.below hb)
              have HL : Hid (Lst.Ints 0 u7 vl (yb.reverse)) := Lib.hid (ho.ints (by rw [List.length_reverse]; omega))
              clear ho hb I7
              go_wp2_with fail
              refine (Lst.sameInts_yes HL.out (LB.out.ints (fun p hp => (I8.out.2.2.2.2.2 p hp).1) (by rw [List.length_reverse]; omega))).mono ?_
              rintro e u8 ⟨rfl, m8, hu⟩
              have I9 := Lib.hid (I8.out.below (hu ▸ below_drewN (Below.refl _ _) m8 : Below _ _ u8))
              clear I8 hu HL
              go_wp2
              go_roundw
              case rel => exact ⟨i + 1, so2, ya, yb, nb ++ (wr.heap.size, box8 K true X) :: bs, by go_num, by omega, I9, LA, LB⟩
              case measure => simp [intOf]; omega
          · have dK : decide (K < 3) = false := by rw [decide_eq_false_iff_not]; exact hK
            rcases nil_or_snoc xb with hx0 | hx0
            · obtain ⟨pa, ca, hva, hpa, hca⟩ := LA.out.form
              obtain ⟨pb, cb, hvb, hpb, hcb⟩ := LB.out.form
              rw [List.length_reverse] at hvb
              subst hva hvb
              have hI : Hid (FI w (wr.alloc (.cells #[.int .i64 K, .bool true, .int .i64 X] 85)) b0 qg sb so R R xa xb ((wr.heap.size, box8 K true X) :: bs)) := Lib.hid (I0.out.add (box8 K true X))
              have I1 := hI
              clear hI
              subst hx0
              go_wp2_with fail
              refine (fsfirst I1.out.2.1).mono ?_
              intro e u1 hf
              obtain ⟨he, m1, hu⟩ : e = .returned (.tuple #[.int .i64 0, .bool false]) ∧ ∃ m, u1 = World.drewN _ m := hf
              subst he
              have I2 := Lib.hid (I1.out.below (hu ▸ below_drewN (Below.refl _ _) m1 : Below _ _ u1))
              clear I1 hu
              obtain ⟨hbx, e0, e1, e2⟩ := cells8 (I2.out.2.2.2.2.2 (wr.heap.size, box8 K true X) (by simp)).1
              go_wp2_with fail
              refine (fspop I2.out.2.1).mono ?_
              intro e u2 hq
              obtain ⟨he, so2, I3⟩ := I2.out.s hq
              rw [show ([] : List Int).dropLast = [] from rfl] at I3
              replace he : e = .returned (.tuple #[.int .i64 0, .bool false]) := he
              subst he
              clear hq I2 hbx e0 e1 e2
              obtain ⟨hbx, e0, e1, e2⟩ := cells8 (I3.out.2.2.2.2.2 (wr.heap.size, box8 K true X) (by simp)).1
              have LA0 := Lib.hid (LA.out.mono (bs' := (wr.heap.size, box8 K true X) :: bs) (fun p hp => List.mem_cons_of_mem _ hp))
              have LB0 := Lib.hid (LB.out.mono (bs' := (wr.heap.size, box8 K true X) :: bs) (fun p hp => List.mem_cons_of_mem _ hp))
              clear LA LB
              have LA := LA0
              have LB := LB0
              clear LA0 LB0
              obtain ⟨ya, hy0⟩ : ∃ z : List Int, z = xa := ⟨_, rfl⟩
              subst hy0
              have hya : (ya.length : Int) ≤ (R : Int) := by have := I3.out.1.2.1; omega
              go_wp2_with fail
              refine (fqlen I3.out.1).mono ?_
              rintro e v1 ⟨rfl, rfl⟩
              go_wp2_with fail
              refine (fslen I3.out.2.1).mono ?_
              rintro e v2 ⟨rfl, rfl⟩
              go_wp2_with fail
              refine (fqroom I3.out.1).mono ?_
              rintro e u3 ⟨rfl, m3, hu⟩
              have I4 := Lib.hid (I3.out.below (hu ▸ below_drewN (Below.refl _ _) m3 : Below _ _ u3))
              clear I3 hu
              go_wp2_with fail
              refine (fsroom I4.out.2.1).mono ?_
              rintro e u4 ⟨rfl, m4, hu⟩
              have I5 := Lib.hid (I4.out.below (hu ▸ below_drewN (Below.refl _ _) m4 : Below _ _ u4))
              clear I4 hu
              go_wp2_with fail
              refine (fqlist I5.out.1).mono ?_
              rintro e u5 ⟨vl, rfl, ho, hb⟩
              have I6 := Lib.hid (I5.out.below hb)
              have HL : Hid (Lst.Ints 0 u5 vl (ya)) := Lib.hid (ho.ints (by omega))
              clear ho hb I5
              go_wp2_with fail
              refine (Lst.sameInts_yes HL.out (LA.out.ints (fun p hp => (I6.out.2.2.2.2.2 p hp).1) (by omega))).mono ?_
              rintro e u6 ⟨rfl, m6, hu⟩
              have I7 := Lib.hid (I6.out.below (hu ▸ below_drewN (Below.refl _ _) m6 : Below _ _ u6))
              clear I6 hu HL
              go_wp2_with fail
              refine (fslist I7.out.2.1).mono ?_
              rintro e u7 ⟨vl, rfl, ho, hb⟩
              have I8 := Lib.hid (I7.out.below hb)
              have HL : Hid (Lst.Ints 0 u7 vl (([] : List Int).reverse)) := Lib.hid (ho.ints (by rw [List.length_reverse]; omega))
              clear ho hb I7
              go_wp2_with fail
              refine (Lst.sameInts_yes HL.out (LB.out.ints (fun p hp => (I8.out.2.2.2.2.2 p hp).1) (by rw [List.length_reverse]; omega))).mono ?_
              rintro e u8 ⟨rfl, m8, hu⟩
              have I9 := Lib.hid (I8.out.below (hu ▸ below_drewN (Below.refl _ _) m8 : Below _ _ u8))
              clear I8 hu HL
              go_wp2
              go_roundw
              case rel => exact ⟨i + 1, so2, ya, ([] : List Int), (wr.heap.size, box8 K true X) :: bs, by go_num, by omega, I9, LA, LB⟩
              case measure => simp [intOf]; omega
            · obtain ⟨pa, ca, hva, hpa, hca⟩ := LA.out.form
              obtain ⟨pb, cb, hvb, hpb, hcb⟩ := LB.out.form
              rw [List.length_reverse] at hvb
              obtain ⟨ml, hml⟩ : ∃ m, m = xb.length := ⟨_, rfl⟩
              rw [← hml] at hvb
              have HML := Lib.hid hml
              clear hml hcb
              subst hva hvb
              have hI : Hid (FI w (wr.alloc (.cells #[.int .i64 K, .bool true, .int .i64 X] 85)) b0 qg sb so R R xa xb ((wr.heap.size, box8 K true X) :: bs)) := Lib.hid (I0.out.add (box8 K true X))
              have I1 := hI
              clear hI
              obtain ⟨ys, x, rfl⟩ := hx0
              have hrv : (ys ++ [x]).reverse = x :: ys.reverse := by simp
              have hgt : (0 : Int) < (ml : Int) := by rw [HML.out]; simp
              have LB1 := Lib.hid LB.out
              rw [hrv] at LB1
              obtain ⟨gl, ol, rfl, hcl, pt, ct, hsl, HT0⟩ := LB1.out.tail (by have := I1.out.2.1.1; have := I1.out.2.1.2.1; simp at this; rw [List.length_reverse]; omega)
              have HT := Lib.hid HT0
              have HCL := Lib.hid hcl
              clear HT0 hcl LB1
              go_wp2_with fail
              refine (fsfirst I1.out.2.1).mono ?_
              intro e u1 hf
              rw [hrv] at hf
              obtain ⟨he, m1, hu⟩ : e = .returned (.tuple #[.int .i64 x, .bool true]) ∧ ∃ m, u1 = World.drewN _ m := hf
              subst he
              have I2 := Lib.hid (I1.out.below (hu ▸ below_drewN (Below.refl _ _) m1 : Below _ _ u1))
              clear I1 hu
              obtain ⟨hbx, e0, e1, e2⟩ := cells8 (I2.out.2.2.2.2.2 (wr.heap.size, box8 K true X) (by simp)).1
              go_wp2_with fail
              refine (fspop I2.out.2.1).mono ?_
              intro e u2 hq
              obtain ⟨he, so2, I3⟩ := I2.out.s hq
              rw [hrv] at he
              rw [List.dropLast_concat] at I3
              replace he : e = .returned (.tuple #[.int .i64 x, .bool true]) := he
              subst he
              clear hq I2 hbx e0 e1 e2
              obtain ⟨hbx, e0, e1, e2⟩ := cells8 (I3.out.2.2.2.2.2 (wr.heap.size, box8 K true X) (by simp)).1
              obtain ⟨hgl, ccl⟩ := HCL.out u2 (fun p hp => (I3.out.2.2.2.2.2 p (List.mem_cons_of_mem _ hp)).1)
              rw [List.length_reverse] at hsl
              clear LB
              have LB := HT
              clear HT HCL
              rw [List.length_reverse] at LB
              have LA0 := Lib.hid (LA.out.mono (bs' := (wr.heap.size, box8 K true X) :: bs) (fun p hp => List.mem_cons_of_mem _ hp))
              have LB0 := Lib.hid (LB.out.mono (bs' := (wr.heap.size, box8 K true X) :: bs) (fun p hp => List.mem_cons_of_mem _ hp))
              clear LA LB
              have LA := LA0
              have LB := LB0
              clear LA0 LB0
              obtain ⟨ya, hy0⟩ : ∃ z : List Int, z = xa := ⟨_, rfl⟩
              obtain ⟨yb, hy1⟩ : ∃ z : List Int, z = ys := ⟨_, rfl⟩
              subst hy0 hy1
              have hya : (ya.length : Int) ≤ (R : Int) := by have := I3.out.1.2.1; omega
              have hyb : (yb.length : Int) ≤ (R : Int) := by have := I3.out.2.1.2.1; omega
              go_wp2_with fail
              refine (fqlen I3.out.1).mono ?_
              rintro e v1 ⟨rfl, rfl⟩
              go_wp2_with fail
              refine (fslen I3.out.2.1).mono ?_
              rintro e v2 ⟨rfl, rfl⟩
              go_wp2_with fail
              refine (fqroom I3.out.1).mono ?_
              rintro e u3 ⟨rfl, m3, hu⟩
              have I4 := Lib.hid (I3.out.below (hu ▸ below_drewN (Below.refl _ _) m3 : Below _ _ u3))
              clear I3 hu
              go_wp2_with fail
              refine (fsroom I4.out.2.1).mono ?_
              rintro e u4 ⟨rfl, m4, hu⟩
              have I5 := Lib.hid (I4.out.below (hu ▸ below_drewN (Below.refl _ _) m4 : Below _ _ u4))
              clear I4 hu
              go_wp2_with fail
              refine (fqlist I5.out.1).mono ?_
              rintro e u5 ⟨vl, rfl, ho, hb⟩
              have I6 := Lib.hid (I5.out.below hb)
              have HL : Hid (Lst.Ints 0 u5 vl (ya)) := Lib.hid (ho.ints (by omega))
              clear ho hb I5
              go_wp2_with fail
              refine (Lst.sameInts_yes HL.out (LA.out.ints (fun p hp => (I6.out.2.2.2.2.2 p hp).1) (by omega))).mono ?_
              rintro e u6 ⟨rfl, m6, hu⟩
              have I7 := Lib.hid (I6.out.below (hu ▸ below_drewN (Below.refl _ _) m6 : Below _ _ u6))
              clear I6 hu HL
              go_wp2_with fail
              refine (fslist I7.out.2.1).mono ?_
              rintro e u7 ⟨vl, rfl, ho, hb⟩
              have I8 := Lib.hid (I7.out.below hb)
              have HL : Hid (Lst.Ints 0 u7 vl (yb.reverse)) := Lib.hid (ho.ints (by rw [List.length_reverse]; omega))
              clear ho hb I7
              go_wp2_with fail
              refine (Lst.sameInts_yes HL.out (LB.out.ints (fun p hp => (I8.out.2.2.2.2.2 p hp).1) (by rw [List.length_reverse]; omega))).mono ?_
              rintro e u8 ⟨rfl, m8, hu⟩
              have I9 := Lib.hid (I8.out.below (hu ▸ below_drewN (Below.refl _ _) m8 : Below _ _ u8))
              clear I8 hu HL
              go_wp2
              go_roundw
              case rel => exact ⟨i + 1, so2, ya, yb, (wr.heap.size, box8 K true X) :: bs, by go_num, by omega, I9, LA, LB⟩
              case measure => simp [intOf]; omega
      · have HB := Lib.hid I0.out.2.2.1
        clear I0 LA LB
        go_wp2_with fail
        refine (folives _).mono ?_
        rintro e wl ⟨rfl, hb⟩
        have HB2 := Lib.hid (HB.out.trans (hb.mono HB.out.size))
        clear hb
        go_wp2
        go_ret
        exact ⟨rfl, HB2.out⟩
end Go.Proofs.Ytpmimngngehmlaa.F
