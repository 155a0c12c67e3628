/-
  The statements' own first question, lives: whatever the memory, the library's table in it: it is answered with true, and what was there is as it was. Not a statement of the seat.
-/
import Derived.Test.YtoakpmbiplmpbaaDoorRow12
namespace Go.Proofs.YtoakpmbiplmpbaaDoor.Bits
open Go.ChangeShapes Go.WideShapes Go.ChangeAt Go.RowKit Base Go.Shelf
def rV : Nat := 1 + 2 ^ 63 + 2 ^ 69
def cV : Nat := 1 + 2 ^ 63
theorem r_of : ofV (rowLen 70) [0, 63, 69, 70] = rV := by decide +kernel
theorem r_len : rowLen 70 = 70 := by decide
theorem n_len : rowLen (-3) = 0 := by decide
theorem r_count : pc 70 rV = 3 := by decide +kernel
theorem r_list : intsOf 70 rV = [0, 63, 69] := by decide +kernel
theorem m1_list : intsOf 70 (movV 70 rV 1) = [1, 64] := by decide +kernel
theorem m2_list : intsOf 70 (movV 70 rV (-64)) = [5] := by decide +kernel
theorem c_set1 : setV 70 rV 69 false = cV := by decide +kernel
theorem c_set2 : setV 70 cV 69 false = cV := by decide +kernel
theorem c_set3 : setV 70 cV 70 true = cV := by decide +kernel
theorem c_was1 : decide ((0 : Int) ≤ 69 ∧ (69 : Int) < (70 : Nat) ∧ rV.testBit (69 : Int).toNat ≠ false) = true := by decide +kernel
theorem c_was2 : decide ((0 : Int) ≤ 69 ∧ (69 : Int) < (70 : Nat) ∧ cV.testBit (69 : Int).toNat ≠ false) = false := by decide +kernel
theorem c_was3 : decide ((0 : Int) ≤ 70 ∧ (70 : Int) < (70 : Nat) ∧ cV.testBit (70 : Int).toNat ≠ true) = false := by decide +kernel
theorem c_count : pc 70 cV = 2 := by decide +kernel
theorem r_c : decide (rV = cV) = false := by decide +kernel
theorem r_next1 {r : Int} (h : NextP 70 rV 1 r) : r = 63 := next_is (j := 63) h (by decide) (by decide) (by decide +kernel) (by decide +kernel)
theorem r_next0 {r : Int} (h : NextP 70 rV 0 r) : r = 0 := next_is (j := 0) h (by decide) (by decide) (by decide +kernel) (by decide +kernel)
attribute [irreducible] rV cV
theorem set_is {b g n V : Nat} {i : Int} {on : Bool} {V' : Nat} {res : Bool} {w : World} (h : RowAt w b g n V) (h1 : setV n V i on = V') (h2 : decide (0 ≤ i ∧ i < n ∧ V.testBit i.toNat ≠ on) = res) :
    Calls Tryd.prog 43 #[.pointer (some ⟨b, 0, none⟩), .int .i64 i, .bool on] w fun e w' => e = .returned (.bool res) ∧ RowAt w' b g n V' ∧ w.grownBy w' (some g) :=
  (set_any b g n V i on w h).mono fun e w' hp => by
    obtain ⟨p1, p2, p3⟩ := hp
    rw [h2] at p1
    rw [h1] at p2
    exact ⟨p1, p2, p3⟩
theorem sameInts_yes {b1 b2 : Nat} {v u : Value} {xs : List Int} {w : World} (hx : Ints b1 w v xs) (hy : Ints b2 w u xs) :
    Calls Tryd.prog 16 #[v, u] w fun e w' => e = .returned (.bool true) ∧ Below w.heap.size w w' :=
  (sameInts_ints hx hy).mono fun e w' h => ⟨by rw [h.1, decide_eq_true rfl], by obtain ⟨q, rfl⟩ := h.2; exact below_drewN (Below.refl _ w) q⟩
theorem same_row {b g V b' g' W n : Nat} {w : World} (h : RowAt w b g n V) (h' : RowAt w b' g' n W) {res : Bool} (hr : decide (V = W) = res) : Calls Tryd.prog 14 #[.pointer (some ⟨b, 0, none⟩), .pointer (some ⟨b', 0, none⟩)] w fun e w' => e = .returned (.bool res) ∧ Below w.heap.size w w' :=
  (same_any b g V b' g' W n w h h').mono fun e w' h => ⟨by rw [h.1, hr], by obtain ⟨q, rfl⟩ := h.2; exact below_drewN (Below.refl _ w) q⟩
theorem tab_below {w w1 : World} (hT : TabAt 0 Lib.deBruijn64tab w) (hg : 0 < w.heap.size) (hb : Below w.heap.size w w1) : TabAt 0 Lib.deBruijn64tab w1 := fun j hj => (hb.cell (p := ⟨_, j, none⟩) hg).trans (hT j hj)
/-- What holds between the questions: three rows stand, the table, and what was there is as it was. -/
def LI (w0 w : World) (b g bn gn bc gc Vc : Nat) : Prop := Below w0.heap.size w0 w ∧ RowAt w b g 70 rV ∧ RowAt w bn gn 0 0 ∧ RowAt w bc gc 70 Vc ∧ TabAt 0 Lib.deBruijn64tab w ∧ 0 < w.heap.size
theorem LI.step {w0 w w1 : World} {b g bn gn bc gc Vc : Nat} (h : LI w0 w b g bn gn bc gc Vc) (hb : Below w.heap.size w w1) : LI w0 w1 b g bn gn bc gc Vc :=
  ⟨h.1.trans (hb.mono h.1.size), h.2.1.below hb, h.2.2.1.below hb, h.2.2.2.1.below hb, tab_below h.2.2.2.2.1 h.2.2.2.2.2 hb, Nat.lt_of_lt_of_le h.2.2.2.2.2 hb.size⟩
theorem LI.alloc {w0 w : World} {b g bn gn bc gc Vc : Nat} (h : LI w0 w b g bn gn bc gc Vc) (o : Obj) : LI w0 (w.alloc o) b g bn gn bc gc Vc := h.step ((Below.refl _ w).alloc (Nat.le_refl _) o)
theorem LI.turn {w0 w w1 : World} {b g bn gn bc gc Vc Vd : Nat} (h : LI w0 w b g bn gn bc gc Vc) (hr : RowAt w1 bc gc 70 Vd) (hg : w.grownBy w1 (some gc)) (hw : w0.heap.size ≤ gc) (h1 : b ≠ gc ∧ g ≠ gc ∧ bn ≠ gc ∧ gn ≠ gc ∧ 0 ≠ gc) : LI w0 w1 b g bn gn bc gc Vd :=
  ⟨h.1.grown hg h.1.size (by intro k hk; cases hk; exact hw), h.2.1.grown hg h1.1 h1.2.1, h.2.2.1.grown hg h1.2.2.1 h1.2.2.2.1, hr, fun j hj => (World.cell?_of_block (w := w) (a := ⟨_, j, none⟩) (hg.block _ h.2.2.2.2.2 (fun e => h1.2.2.2.2 (Option.some.inj e)))).trans (h.2.2.2.2.1 j hj), Nat.lt_of_lt_of_le h.2.2.2.2.2 hg.size⟩
set_option maxHeartbeats 4000000 in
set_option maxRecDepth 100000 in
theorem lives_any (w : World) (hT : TabAt 0 Lib.deBruijn64tab w) (hg : 0 < w.heap.size) : Calls Tryd.prog 9 #[] w fun e w' => e = .returned (.bool true) ∧ Below w.heap.size w w' := by
  have HT := Lib.hid hT
  have HG := Lib.hid hg
  have BA := Lib.hid ((Below.refl w.heap.size w).alloc (Nat.le_refl _) (.cells #[.int .i64 0, .int .i64 63, .int .i64 69, .int .i64 70] 3))
  have HO : Hid (Calls Tryd.prog 17 #[.int .i64 70, .slice (some ⟨w.heap.size, 0, none⟩) 4 4] (w.alloc (.cells #[.int .i64 0, .int .i64 63, .int .i64 69, .int .i64 70] 3)) (RowNew 70 rV (w.alloc (.cells #[.int .i64 0, .int .i64 63, .int .i64 69, .int .i64 70] 3)))) := Lib.hid (by
    have h := of_row 70 _ (lit_ints [0, 63, 69, 70] w 3 #[.int .i64 0, .int .i64 63, .int .i64 69, .int .i64 70] rfl (by decide) 4 rfl)
    rwa [r_of, r_len] at h)
  clear hT hg
  go_enter Tryd.func9, Tryd.ntmps9
  go_wp2_with fail
  refine (HO.out).mono ?_
  rintro e w1 ⟨b, g, rfl, hr, hb, h1, h2⟩
  simp only [World.size_alloc] at h1 h2
  have HR := Lib.hid hr
  have B1 := Lib.hid (BA.out.trans (hb.mono BA.out.size))
  have hz1 := heap_lt hr.1
  have hz2 := heap_lt hr.2.1
  clear hr hb HO BA
  have HN := Lib.hid (new_row (-3) w1)
  rw [n_len] at HN
  go_wp2_with fail
  refine (HN.out).mono ?_
  rintro e w2 ⟨bn, gn, rfl, hr, hb, h3, h4⟩
  have I0 : Hid (LI w w2 b g bn gn b g rV) := Lib.hid ⟨B1.out.trans (hb.mono B1.out.size), HR.out.below hb, hr, HR.out.below hb, tab_below HT.out HG.out (B1.out.trans (hb.mono B1.out.size)), Nat.lt_of_lt_of_le (Nat.lt_of_lt_of_le HG.out B1.out.size) hb.size⟩
  have hz3 := heap_lt hr.1
  have hz4 := heap_lt hr.2.1
  have hz5 := hb.size
  have hz6 := B1.out.size
  clear hr hb HN HR B1
  go_wp2_with fail
  refine (moved_row b g 70 rV 1 _ I0.out.2.1).mono ?_
  rintro e x1 ⟨y, z, rfl, _, hb, _, _⟩
  have I1 := Lib.hid (I0.out.step hb)
  clear hb I0
  go_wp2_with fail
  refine (moved_row b g 70 rV (-64) _ I1.out.2.1).mono ?_
  rintro e x2 ⟨y, z, rfl, _, hb, _, _⟩
  have I2 := Lib.hid (I1.out.step hb)
  clear hb I1
  go_wp2_with fail
  refine (copy_row b g 70 rV _ I2.out.2.1).mono ?_
  rintro e x3 ⟨y, z, rfl, _, hb, _, _⟩
  have I3 := Lib.hid (I2.out.step hb)
  clear hb I2
  go_wp2_with fail
  refine (copy_row b g 70 rV _ I3.out.2.1).mono ?_
  rintro e x ⟨bc, gc, rfl, hr, hb, h5, h6⟩
  have hy1 := heap_lt I3.out.2.1.1
  have hy2 := heap_lt I3.out.2.1.2.1
  have hy3 := heap_lt I3.out.2.2.1.1
  have hy4 := heap_lt I3.out.2.2.1.2.1
  have hy5 := I3.out.2.2.2.2.2
  have hy6 := I3.out.1.size
  have HNE : Hid (b ≠ gc ∧ g ≠ gc ∧ bn ≠ gc ∧ gn ≠ gc ∧ 0 ≠ gc) := Lib.hid ⟨by omega, by omega, by omega, by omega, by omega⟩
  have HW : Hid (w.heap.size ≤ gc) := Lib.hid (by omega)
  have J0 : Hid (LI w x b g bn gn bc gc rV) := Lib.hid (by have h := I3.out.step hb; exact ⟨h.1, h.2.1, h.2.2.1, hr, h.2.2.2.2⟩)
  clear hr hb I3 hy1 hy2 hy3 hy4 hy5 hy6 h1 h2 h3 h4 h5 h6 hz1 hz2 hz3 hz4 hz5 hz6
  go_wp2_with fail
  refine (set_is (i := 69) (on := false) J0.out.2.2.2.1 c_set1 c_was1).mono ?_
  rintro e y1 ⟨rfl, hr, hg⟩
  have J1 := Lib.hid (J0.out.turn hr hg HW.out HNE.out)
  clear hr hg J0
  go_wp2_with fail
  refine (set_is (i := 69) (on := false) J1.out.2.2.2.1 c_set2 c_was2).mono ?_
  rintro e y2 ⟨rfl, hr, hg⟩
  have J2 := Lib.hid (J1.out.turn hr hg HW.out HNE.out)
  clear hr hg J1
  go_wp2_with fail
  refine (set_is (i := 70) (on := true) J2.out.2.2.2.1 c_set3 c_was3).mono ?_
  rintro e y3 ⟨rfl, hr, hg⟩
  have J3 := Lib.hid (J2.out.turn hr hg HW.out HNE.out)
  clear hr hg J2
  have I10 := J3
  clear J3 HNE HW
  go_wp2_with fail
  refine (len_any b g 70 rV _ I10.out.2.1).mono ?_
  rintro e x ⟨rfl, rfl⟩
  have ec := r_count
  go_wp2_with fail
  refine (count_any b g 70 rV _ I10.out.2.1).mono ?_
  rintro e x ⟨rfl, rfl⟩
  rw [r_count]
  go_wp2_with fail
  refine (list_ints b g 70 rV _ I10.out.2.1 I10.out.2.2.2.2.1 I10.out.2.2.2.2.2).mono ?_
  rintro e x11 ⟨⟨v, rfl, hv⟩, hb⟩
  rw [r_list] at hv
  have HV := Lib.hid (hv.below ((Below.refl _ _).alloc (Nat.le_refl _) (.cells #[.int .i64 0, .int .i64 63, .int .i64 69] 3)))
  have HL := Lib.hid (lit_ints [0, 63, 69] x11 3 #[.int .i64 0, .int .i64 63, .int .i64 69] rfl (by decide) 3 rfl)
  have I11 := Lib.hid ((I10.out.step hb).alloc (.cells #[.int .i64 0, .int .i64 63, .int .i64 69] 3))
  clear hv hb I10
  go_wp2_with fail
  refine (sameInts_yes HV.out HL.out).mono ?_
  rintro e x12 ⟨rfl, hb⟩
  have I12 := Lib.hid (I11.out.step hb)
  clear HV HL hb I11
  go_wp2_with fail
  refine (next_any b g 70 rV 1 _ I12.out.2.1 I12.out.2.2.2.2.1).mono ?_
  rintro e x ⟨⟨r, rfl, hr⟩, q1, rfl⟩
  cases r_next1 hr
  have I12a := Lib.hid (I12.out.step (below_drewN (Below.refl _ _) q1))
  clear hr I12
  have I12 := I12a
  clear I12a
  generalize x12.drewN q1 = x12 at I12 ⊢
  go_wp2_with fail
  refine (next_neg b g 70 rV (-9) (by decide) _ I12.out.2.1 I12.out.2.2.2.2.1).mono ?_
  rintro e x ⟨⟨r, rfl, hr⟩, q2, rfl⟩
  cases r_next0 hr
  have I12a := Lib.hid (I12.out.step (below_drewN (Below.refl _ _) q2))
  clear hr I12
  have I12 := I12a
  clear I12a
  generalize x12.drewN q2 = x12 at I12 ⊢
  go_wp2_with fail
  refine (next_out b g 70 rV 70 (Nat.le_refl _) _ I12.out.2.1).mono ?_
  rintro e x ⟨rfl, rfl⟩
  go_wp2_with fail
  refine (moved_row b g 70 rV (1) _ I12.out.2.1).mono ?_
  rintro e x13 ⟨y, z, rfl, hr, hb, _, _⟩
  have I13 := Lib.hid (I12.out.step hb)
  have HM := Lib.hid hr
  clear hr hb I12
  go_wp2_with fail
  refine (list_ints y z 70 (movV 70 rV 1) _ HM.out I13.out.2.2.2.2.1 I13.out.2.2.2.2.2).mono ?_
  rintro e x14 ⟨⟨v, rfl, hv⟩, hb⟩
  rw [m1_list] at hv
  have HV := Lib.hid (hv.below ((Below.refl _ _).alloc (Nat.le_refl _) (.cells #[.int .i64 1, .int .i64 64] 3)))
  have HL := Lib.hid (lit_ints [1, 64] x14 3 #[.int .i64 1, .int .i64 64] rfl (by decide) 2 rfl)
  have I14 := Lib.hid ((I13.out.step hb).alloc (.cells #[.int .i64 1, .int .i64 64] 3))
  clear hv hb I13 HM
  go_wp2_with fail
  refine (sameInts_yes HV.out HL.out).mono ?_
  rintro e x15 ⟨rfl, hb⟩
  have I15 := Lib.hid (I14.out.step hb)
  clear HV HL hb I14
  go_wp2_with fail
  refine (moved_row b g 70 rV (-64) _ I15.out.2.1).mono ?_
  rintro e x16 ⟨y, z, rfl, hr, hb, _, _⟩
  have I16 := Lib.hid (I15.out.step hb)
  have HM := Lib.hid hr
  clear hr hb I15
  go_wp2_with fail
  refine (list_ints y z 70 (movV 70 rV (-64)) _ HM.out I16.out.2.2.2.2.1 I16.out.2.2.2.2.2).mono ?_
  rintro e x17 ⟨⟨v, rfl, hv⟩, hb⟩
  rw [m2_list] at hv
  have HV := Lib.hid (hv.below ((Below.refl _ _).alloc (Nat.le_refl _) (.cells #[.int .i64 5] 3)))
  have HL := Lib.hid (lit_ints [5] x17 3 #[.int .i64 5] rfl (by decide) 1 rfl)
  have I17 := Lib.hid ((I16.out.step hb).alloc (.cells #[.int .i64 5] 3))
  clear hv hb I16 HM
  go_wp2_with fail
  refine (sameInts_yes HV.out HL.out).mono ?_
  rintro e x18 ⟨rfl, hb⟩
  have I18 := Lib.hid (I17.out.step hb)
  clear HV HL hb I17
  go_wp2_with fail
  refine (count_any bc gc 70 cV _ I18.out.2.2.2.1).mono ?_
  rintro e x ⟨rfl, rfl⟩
  rw [c_count]
  go_wp2_with fail
  refine (same_row I18.out.2.1 I18.out.2.2.2.1 r_c).mono ?_
  rintro e x19 ⟨rfl, hb⟩
  have I19 := Lib.hid (I18.out.step hb)
  clear hb I18
  go_wp2_with fail
  refine (same_zero_nil bn gn 0 _ I19.out.2.2.1).mono ?_
  rintro e x ⟨rfl, rfl⟩
  go_wp2_with fail
  refine (len_any bn gn 0 0 _ I19.out.2.2.1).mono ?_
  rintro e x ⟨rfl, rfl⟩
  go_wp2_with fail
  refine (len_nil _).mono ?_
  rintro e x ⟨rfl, rfl⟩
  go_wp2_with fail
  refine (next_nil _).mono ?_
  rintro e x ⟨rfl, rfl⟩
  go_wp2_with fail
  refine (has_nil _).mono ?_
  rintro e x ⟨rfl, rfl⟩
  go_wp2_with fail
  refine (or_nil b _).mono ?_
  rintro e x ⟨rfl, rfl⟩
  go_wp2_with fail
  refine (list_nil _).mono ?_
  rintro e x20 ⟨rfl, hb⟩
  have I20 := Lib.hid (I19.out.step hb)
  clear hb I19
  go_wp2_with fail
  refine (copy_none _).mono ?_
  rintro e x ⟨y, z, rfl, hr, hb, _, _⟩
  have HR := Lib.hid hr
  have I21 := Lib.hid (I20.out.step hb)
  clear hr hb I20
  go_wp2_with fail
  refine (same_zero_nil y z 0 _ HR.out).mono ?_
  rintro e x ⟨rfl, rfl⟩
  go_wp2
  go_ret
  exact ⟨rfl, I21.out.1⟩
end Go.Proofs.YtoakpmbiplmpbaaDoor.Bits
