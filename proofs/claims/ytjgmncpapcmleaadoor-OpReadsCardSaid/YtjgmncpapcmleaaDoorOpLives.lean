/-
  What the statements on operations ask first: answers that the document gives. Not a statement of the seat.
-/
import Derived.Test.YtjgmncpapcmleaaDoorOpRd
import Derived.Test.YtjgmncpapcmleaaDoorOpSame
import Derived.Test.YtjgmncpapcmleaaDoorOp2
import Derived.Test.YtjgmncpapcmleaaDoorQVer
namespace Go.Proofs.YtjgmncpapcmleaaDoor.Op
open Go.ChangeShapes Go.WideShapes Go.ChangeAt Go.RowKit Base Nu F Go.Lib Lst
/-- What a call that tells true leaves. -/
def TruePost (w : World) (e : Ending) (w' : World) : Prop := e = .returned (.bool true) ∧ Below w.heap.size w w'
theorem read_lit (s : ByteArray) (x : Opr) (why : Int) (h : readO s.data.toList = (x, why)) (hs : s.size ≤ 1000) (w : World) :
    Calls Tryd.prog 8 #[.string s] w fun e w' => e = .returned (.tuple #[.agg #[.bool x.rd, .int .i64 x.k, .int .i64 x.t, .int .i64 x.n], .int .i64 why]) ∧ Below w.heap.size w w' := by
  have hh := read2_any s (by omega) w
  unfold RdPost at hh
  rwa [h] at hh
theorem chainO {B : Nat} {V w1 w2 : World} {o : Obj} (hC : Below B V w1) (hB : B ≤ V.heap.size) (hb : Below (w1.alloc o).heap.size (w1.alloc o) w2) : Below B V w2 := hC.trans ((bel1 hb).mono (Nat.le_trans hB hC.size))
theorem textP (s : List UInt8) (x : Opr) (hx : x.ok) (h : textO x = s) (w : World) (hp : Pow w) : Calls Tryd.prog 14 #[.agg #[.bool x.rd, .int .i64 x.k, .int .i64 x.t, .int .i64 x.n]] w fun e w' => e = .returned (.string ⟨s.toArray⟩) ∧ Below w.heap.size w w' := by
  have := text2_any x hx w hp
  rw [h] at this
  exact this
theorem rightP (x : Opr) (y : Int) (h : whyO x = y) (w : World) : Calls Tryd.prog 11 #[.agg #[.bool x.rd, .int .i64 x.k, .int .i64 x.t, .int .i64 x.n]] w fun e w' => e = .returned (.int .i64 y) ∧ Below w.heap.size w w' := by
  have := right_any x w
  rw [h] at this
  exact this
theorem sameP (xs ys : List Opr) (r : Bool) (h : sameO xs ys = r) (w : World) (v u : Value) (b1 b2 : Nat) (hx : Oprs b1 w v xs) (hy : Oprs b2 w u ys) : Calls Tryd.prog 16 #[v, u] w fun e w' => e = .returned (.bool r) ∧ Below w.heap.size w w' := by
  have := same_any w v u xs ys b1 b2 hx hy
  rw [h] at this
  exact this.mono fun e w' ⟨h1, q, h2⟩ => ⟨h1, by rw [h2]; exact below_drewN (Below.refl _ _) q⟩
theorem rd_w5 : readO (⟨#[119, 53]⟩ : ByteArray).data.toList = (⟨false, 5, 0, 0⟩, 0) := by kernel_rfl
theorem rd_r50 : readO (⟨#[114, 53, 64, 48]⟩ : ByteArray).data.toList = (⟨true, 5, 0, 0⟩, 0) := by kernel_rfl
theorem rd_r532 : readO (⟨#[114, 53, 64, 51, 46, 50]⟩ : ByteArray).data.toList = (⟨true, 5, 3, 2⟩, 0) := by kernel_rfl
theorem rd_r501 : readO (⟨#[114, 53, 64, 48, 46, 49]⟩ : ByteArray).data.toList = (⟨false, 0, 0, 0⟩, 5) := by kernel_rfl
theorem rd_r53 : readO (⟨#[114, 53, 64, 51]⟩ : ByteArray).data.toList = (⟨false, 0, 0, 0⟩, 5) := by kernel_rfl
theorem rd_r5031 : readO (⟨#[114, 53, 64, 48, 51, 46, 49]⟩ : ByteArray).data.toList = (⟨false, 0, 0, 0⟩, 10) := by kernel_rfl
theorem rd_w0 : readO (⟨#[119, 48]⟩ : ByteArray).data.toList = (⟨false, 0, 0, 0⟩, 1) := by kernel_rfl
theorem rd_r031 : readO (⟨#[114, 48, 64, 51, 46, 49]⟩ : ByteArray).data.toList = (⟨false, 0, 0, 0⟩, 1) := by kernel_rfl
theorem rd_r530 : readO (⟨#[114, 53, 64, 51, 46, 48]⟩ : ByteArray).data.toList = (⟨false, 0, 0, 0⟩, 1) := by kernel_rfl
set_option maxHeartbeats 8000000 in
set_option maxRecDepth 100000 in
theorem lives_any (w : World) (hp : Pow w) : Calls Tryd.prog 7 #[] w (TruePost w) := by
  have HP := Lib.hid hp
  clear hp
  have R1 := Lib.hid (read_lit ⟨#[119, 53]⟩ ⟨false, 5, 0, 0⟩ 0 rd_w5 (by decide))
  have R2 := Lib.hid (read_lit ⟨#[114, 53, 64, 48]⟩ ⟨true, 5, 0, 0⟩ 0 rd_r50 (by decide))
  have R3 := Lib.hid (read_lit ⟨#[114, 53, 64, 51, 46, 50]⟩ ⟨true, 5, 3, 2⟩ 0 rd_r532 (by decide))
  have R4 := Lib.hid (read_lit ⟨#[114, 53, 64, 48, 46, 49]⟩ ⟨false, 0, 0, 0⟩ 5 rd_r501 (by decide))
  have R5 := Lib.hid (read_lit ⟨#[114, 53, 64, 51]⟩ ⟨false, 0, 0, 0⟩ 5 rd_r53 (by decide))
  have R6 := Lib.hid (read_lit ⟨#[114, 53, 64, 48, 51, 46, 49]⟩ ⟨false, 0, 0, 0⟩ 10 rd_r5031 (by decide))
  have R7 := Lib.hid (read_lit ⟨#[119, 48]⟩ ⟨false, 0, 0, 0⟩ 1 rd_w0 (by decide))
  have R8 := Lib.hid (read_lit ⟨#[114, 48, 64, 51, 46, 49]⟩ ⟨false, 0, 0, 0⟩ 1 rd_r031 (by decide))
  have R9 := Lib.hid (read_lit ⟨#[114, 53, 64, 51, 46, 48]⟩ ⟨false, 0, 0, 0⟩ 1 rd_r530 (by decide))
  have q1 : ∀ w, (binOp .eql 23 (.agg #[.bool false, .int .i64 5, .int .i64 0, .int .i64 0]) (.agg #[.bool false, .int .i64 5, .int .i64 0, .int .i64 0])).run Tryd.prog w = .ok (.bool true) w := fun w => eq_opr ⟨false, 5, 0, 0⟩ ⟨false, 5, 0, 0⟩ w
  have q2 : ∀ w, (binOp .eql 23 (.agg #[.bool true, .int .i64 5, .int .i64 0, .int .i64 0]) (.agg #[.bool true, .int .i64 5, .int .i64 0, .int .i64 0])).run Tryd.prog w = .ok (.bool true) w := fun w => eq_opr ⟨true, 5, 0, 0⟩ ⟨true, 5, 0, 0⟩ w
  have q3 : ∀ w, (binOp .eql 23 (.agg #[.bool true, .int .i64 5, .int .i64 3, .int .i64 2]) (.agg #[.bool true, .int .i64 5, .int .i64 3, .int .i64 2])).run Tryd.prog w = .ok (.bool true) w := fun w => eq_opr ⟨true, 5, 3, 2⟩ ⟨true, 5, 3, 2⟩ w
  have q4 : ∀ w, (binOp .eql 32 (.agg #[.int .i64 3, .int .i64 5, .int .i64 2]) (.agg #[.int .i64 3, .int .i64 5, .int .i64 2])).run Tryd.prog w = .ok (.bool true) w := fun w => eq_ver ⟨3, 5, 2⟩ ⟨3, 5, 2⟩ w
  have q5 : ∀ w, (binOp .eql 32 (.agg #[.int .i64 0, .int .i64 0, .int .i64 0]) (.agg #[.int .i64 0, .int .i64 0, .int .i64 0])).run Tryd.prog w = .ok (.bool true) w := fun w => eq_ver ⟨0, 0, 0⟩ ⟨0, 0, 0⟩ w
  have T1 := Lib.hid (textP [114, 53, 64, 51, 46, 50] ⟨true, 5, 3, 2⟩ (by unfold Opr.ok; decide) (by decide +kernel))
  have T2 := Lib.hid (textP [119, 53] ⟨false, 5, 0, 0⟩ (by unfold Opr.ok; decide) (by decide +kernel))
  have T3 := Lib.hid (textP [] ⟨false, 0, 0, 0⟩ (by unfold Opr.ok; decide) (by decide))
  have O1 := Lib.hid (of_r 5 3 2)
  have O2 := Lib.hid (of_w 5 0 0)
  have G1 := Lib.hid (rightP ⟨true, 5, 0, 0⟩ 0 (by decide))
  have G2 := Lib.hid (rightP ⟨false, 1, 0, 1⟩ 1 (by decide))
  have S1 := Lib.hid (sameP [] [] true rfl)
  have S2 := Lib.hid (sameP [⟨true, 5, 0, 0⟩] [⟨true, 5, 3, 2⟩] false (by decide))
  go_enter Tryd.func7, Tryd.ntmps7
  go_wp2_with fail
  refine (R1.out _).mono ?_
  rintro e w1 ⟨rfl, hb1⟩
  have C0_1 := Lib.hid hb1
  clear hb1
  go_wp2_with fail
  refine (R2.out _).mono ?_
  rintro e w2 ⟨rfl, hb2⟩
  have C0_2 := Lib.hid (chainO C0_1.out (Nat.le_refl _) hb2)
  have C1_2 := Lib.hid hb2
  clear hb2 C0_1
  go_wp2_with fail
  refine (R3.out _).mono ?_
  rintro e w3 ⟨rfl, hb3⟩
  have C0_3 := Lib.hid (chainO C0_2.out (Nat.le_refl _) hb3)
  have C1_3 := Lib.hid (chainO C1_2.out (Nat.le_refl _) hb3)
  have C2_3 := Lib.hid hb3
  clear hb3 C0_2 C1_2
  go_wp2_with fail
  refine (R4.out _).mono ?_
  rintro e w4 ⟨rfl, hb4⟩
  have C0_4 := Lib.hid (chainO C0_3.out (Nat.le_refl _) hb4)
  have C1_4 := Lib.hid (chainO C1_3.out (Nat.le_refl _) hb4)
  have C2_4 := Lib.hid (chainO C2_3.out (Nat.le_refl _) hb4)
  have C3_4 := Lib.hid hb4
  clear hb4 C0_3 C1_3 C2_3
  go_wp2_with fail
  refine (R5.out _).mono ?_
  rintro e w5 ⟨rfl, hb5⟩
  have C0_5 := Lib.hid (chainO C0_4.out (Nat.le_refl _) hb5)
  have C1_5 := Lib.hid (chainO C1_4.out (Nat.le_refl _) hb5)
  have C2_5 := Lib.hid (chainO C2_4.out (Nat.le_refl _) hb5)
  have C3_5 := Lib.hid (chainO C3_4.out (Nat.le_refl _) hb5)
  clear hb5 C0_4 C1_4 C2_4 C3_4
  go_wp2_with fail
  refine (R6.out _).mono ?_
  rintro e w6 ⟨rfl, hb6⟩
  have C0_6 := Lib.hid (chainO C0_5.out (Nat.le_refl _) hb6)
  have C1_6 := Lib.hid (chainO C1_5.out (Nat.le_refl _) hb6)
  have C2_6 := Lib.hid (chainO C2_5.out (Nat.le_refl _) hb6)
  have C3_6 := Lib.hid (chainO C3_5.out (Nat.le_refl _) hb6)
  clear hb6 C0_5 C1_5 C2_5 C3_5
  go_wp2_with fail
  refine (R7.out _).mono ?_
  rintro e w7 ⟨rfl, hb7⟩
  have C0_7 := Lib.hid (chainO C0_6.out (Nat.le_refl _) hb7)
  have C1_7 := Lib.hid (chainO C1_6.out (Nat.le_refl _) hb7)
  have C2_7 := Lib.hid (chainO C2_6.out (Nat.le_refl _) hb7)
  have C3_7 := Lib.hid (chainO C3_6.out (Nat.le_refl _) hb7)
  clear hb7 C0_6 C1_6 C2_6 C3_6
  go_wp2_with fail
  refine (R8.out _).mono ?_
  rintro e w8 ⟨rfl, hb8⟩
  have C0_8 := Lib.hid (chainO C0_7.out (Nat.le_refl _) hb8)
  have C1_8 := Lib.hid (chainO C1_7.out (Nat.le_refl _) hb8)
  have C2_8 := Lib.hid (chainO C2_7.out (Nat.le_refl _) hb8)
  have C3_8 := Lib.hid (chainO C3_7.out (Nat.le_refl _) hb8)
  clear hb8 C0_7 C1_7 C2_7 C3_7
  go_wp2_with fail
  refine (R9.out _).mono ?_
  rintro e w9 ⟨rfl, hb9⟩
  have C0_9 := Lib.hid (chainO C0_8.out (Nat.le_refl _) hb9)
  have C1_9 := Lib.hid (chainO C1_8.out (Nat.le_refl _) hb9)
  have C2_9 := Lib.hid (chainO C2_8.out (Nat.le_refl _) hb9)
  have C3_9 := Lib.hid (chainO C3_8.out (Nat.le_refl _) hb9)
  clear hb9 C0_8 C1_8 C2_8 C3_8
  have K : Hid (∀ X, Below w9.heap.size w9 X → ((X.heap[w1.heap.size]? = some (boxO ⟨false, 5, 0, 0⟩)) ∧ (X.heap[w2.heap.size]? = some (boxO ⟨true, 5, 0, 0⟩)) ∧ (X.heap[w3.heap.size]? = some (boxO ⟨true, 5, 3, 2⟩))) ∧ Below w.heap.size w X) := Lib.hid fun X hX => ⟨⟨((C1_9.out.trans (hX.mono C1_9.out.size)).block w1.heap.size (by simp)).trans (heap_alloc_at w1 (boxO ⟨false, 5, 0, 0⟩) _ rfl), ((C2_9.out.trans (hX.mono C2_9.out.size)).block w2.heap.size (by simp)).trans (heap_alloc_at w2 (boxO ⟨true, 5, 0, 0⟩) _ rfl), ((C3_9.out.trans (hX.mono C3_9.out.size)).block w3.heap.size (by simp)).trans (heap_alloc_at w3 (boxO ⟨true, 5, 3, 2⟩) _ rfl)⟩, C0_9.out.trans (hX.mono C0_9.out.size)⟩
  clear C0_9 C1_9 C2_9 C3_9 R1 R2 R3 R4 R5 R6 R7 R8 R9
  have HV0 := Lib.hid (Below.refl w9.heap.size w9)
  (skip; obtain ⟨⟨X10, X20, X30⟩, _⟩ := K.out w9 HV0.out; obtain ⟨_, ⟨a00, a10, a20, a30⟩, _⟩ := cellsO X10; obtain ⟨_, ⟨b00, b10, b20, b30⟩, _⟩ := cellsO X20; obtain ⟨_, ⟨c00, c10, c20, c30⟩, _⟩ := cellsO X30; clear X10 X20 X30)
  go_wp2_with fail
  refine (T1.out _ (HP.out.below (K.out _ ((Below.refl _ _).alloc (Nat.le_refl _) _)).2)).mono ?_
  rintro e v1 ⟨rfl, hb⟩
  have HV1 := Lib.hid (chainO HV0.out (Nat.le_refl _) hb)
  clear hb a00 a10 a20 a30 b00 b10 b20 b30 c00 c10 c20 c30
  (skip; obtain ⟨⟨X11, X21, X31⟩, _⟩ := K.out v1 HV1.out; obtain ⟨_, ⟨a01, a11, a21, a31⟩, _⟩ := cellsO X11; obtain ⟨_, ⟨b01, b11, b21, b31⟩, _⟩ := cellsO X21; obtain ⟨_, ⟨c01, c11, c21, c31⟩, _⟩ := cellsO X31; clear X11 X21 X31)
  go_wp2_with fail
  refine (T2.out _ (HP.out.below (K.out _ HV1.out).2)).mono ?_
  rintro e v2 ⟨rfl, hb⟩
  have HV2 := Lib.hid (HV1.out.trans (hb.mono HV1.out.size))
  clear hb a01 a11 a21 a31 b01 b11 b21 b31 c01 c11 c21 c31
  (skip; obtain ⟨⟨X12, X22, X32⟩, _⟩ := K.out v2 HV2.out; obtain ⟨_, ⟨a02, a12, a22, a32⟩, _⟩ := cellsO X12; obtain ⟨_, ⟨b02, b12, b22, b32⟩, _⟩ := cellsO X22; obtain ⟨_, ⟨c02, c12, c22, c32⟩, _⟩ := cellsO X32; clear X12 X22 X32)
  go_wp2_with fail
  refine (T3.out _ (HP.out.below (K.out _ HV2.out).2)).mono ?_
  rintro e v3 ⟨rfl, hb⟩
  have HV3 := Lib.hid (HV2.out.trans (hb.mono HV2.out.size))
  clear hb a02 a12 a22 a32 b02 b12 b22 b32 c02 c12 c22 c32
  (skip; obtain ⟨⟨X13, X23, X33⟩, _⟩ := K.out v3 HV3.out; obtain ⟨_, ⟨a03, a13, a23, a33⟩, _⟩ := cellsO X13; obtain ⟨_, ⟨b03, b13, b23, b33⟩, _⟩ := cellsO X23; obtain ⟨_, ⟨c03, c13, c23, c33⟩, _⟩ := cellsO X33; clear X13 X23 X33)
  go_wp2_with fail
  refine (O1.out _ ).mono ?_
  rintro e v4 ⟨rfl, hb⟩
  have HV4 := Lib.hid (HV3.out.trans (hb.mono HV3.out.size))
  clear hb a03 a13 a23 a33 b03 b13 b23 b33 c03 c13 c23 c33
  (skip; obtain ⟨⟨X14, X24, X34⟩, _⟩ := K.out v4 HV4.out; obtain ⟨_, ⟨a04, a14, a24, a34⟩, _⟩ := cellsO X14; obtain ⟨_, ⟨b04, b14, b24, b34⟩, _⟩ := cellsO X24; obtain ⟨_, ⟨c04, c14, c24, c34⟩, _⟩ := cellsO X34; clear X14 X24 X34)
  go_wp2_with fail
  refine (O2.out _ ).mono ?_
  rintro e v5 ⟨rfl, hb⟩
  have HV5 := Lib.hid (HV4.out.trans (hb.mono HV4.out.size))
  clear hb a04 a14 a24 a34 b04 b14 b24 b34 c04 c14 c24 c34
  (skip; obtain ⟨⟨X15, X25, X35⟩, _⟩ := K.out v5 HV5.out; obtain ⟨_, ⟨a05, a15, a25, a35⟩, _⟩ := cellsO X15; obtain ⟨_, ⟨b05, b15, b25, b35⟩, _⟩ := cellsO X25; obtain ⟨_, ⟨c05, c15, c25, c35⟩, _⟩ := cellsO X35; clear X15 X25 X35)
  go_wp2_with fail
  refine (G1.out _ ).mono ?_
  rintro e v6 ⟨rfl, hb⟩
  have HV6 := Lib.hid (HV5.out.trans (hb.mono HV5.out.size))
  clear hb a05 a15 a25 a35 b05 b15 b25 b35 c05 c15 c25 c35
  (skip; obtain ⟨⟨X16, X26, X36⟩, _⟩ := K.out v6 HV6.out; obtain ⟨_, ⟨a06, a16, a26, a36⟩, _⟩ := cellsO X16; obtain ⟨_, ⟨b06, b16, b26, b36⟩, _⟩ := cellsO X26; obtain ⟨_, ⟨c06, c16, c26, c36⟩, _⟩ := cellsO X36; clear X16 X26 X36)
  go_wp2_with fail
  refine (G2.out _ ).mono ?_
  rintro e v7 ⟨rfl, hb⟩
  have HV7 := Lib.hid (HV6.out.trans (hb.mono HV6.out.size))
  clear hb a06 a16 a26 a36 b06 b16 b26 b36 c06 c16 c26 c36
  (skip; obtain ⟨⟨X17, X27, X37⟩, _⟩ := K.out v7 HV7.out; obtain ⟨_, ⟨a07, a17, a27, a37⟩, _⟩ := cellsO X17; obtain ⟨_, ⟨b07, b17, b27, b37⟩, _⟩ := cellsO X27; obtain ⟨_, ⟨c07, c17, c27, c37⟩, _⟩ := cellsO X37; clear X17 X27 X37)
  go_wp2_with fail
  refine (S1.out _ _ _ 0 0 (OwnOpr.list (OwnOpr.nil 0 _) (by simp)) (OwnOpr.list (B := 0) (ownOpr_empty (Nat.zero_le _) (heap_alloc_at _ _ _ rfl)) (by simp))).mono ?_
  rintro e v8 ⟨rfl, hb⟩
  have HV8 := Lib.hid (HV7.out.trans ((bel1 hb).mono HV7.out.size))
  clear hb a07 a17 a27 a37 b07 b17 b27 b37 c07 c17 c27 c37
  (skip; obtain ⟨⟨X18, X28, X38⟩, _⟩ := K.out v8 HV8.out; obtain ⟨_, ⟨a08, a18, a28, a38⟩, _⟩ := cellsO X18; obtain ⟨_, ⟨b08, b18, b28, b38⟩, _⟩ := cellsO X28; obtain ⟨_, ⟨c08, c18, c28, c38⟩, _⟩ := cellsO X38; clear X18 X28 X38)
  go_wp2_with fail
  refine (S2.out _ _ _ 0 0 (opr_at (c := ⟨true, 5, 0, 0⟩) (heap_alloc_lt _ _ _ _ (heap_alloc_at _ _ _ rfl))) (opr_at (c := ⟨true, 5, 3, 2⟩) (heap_alloc_at _ _ _ (by simp)))).mono ?_
  rintro e v9 ⟨rfl, hb⟩
  have HV9 := Lib.hid (HV8.out.trans ((bel1 (bel1 hb)).mono HV8.out.size))
  clear hb a08 a18 a28 a38 b08 b18 b28 b38 c08 c18 c28 c38
  go_wp2
  go_ret
  exact ⟨rfl, (K.out _ HV9.out).2⟩
end Go.Proofs.YtjgmncpapcmleaaDoor.Op
