/-
  What the statements on numbers ask first: answers that the document gives. Not a statement of the seat.
-/
import Derived.Test.YtjipompbpnebjaaDoorNum2
import Derived.Test.YtjipompbpnebjaaDoorNum3
namespace Go.Proofs.YtjipompbpnebjaaDoor.Nu
open Go.ChangeShapes Go.WideShapes Go.ChangeAt Go.RowKit Go.Lib Lst Sb
/-- What a call that tells true, and may make memory, leaves. -/
def TruePost (w : World) (e : Ending) (w' : World) : Prop := e = .returned (.bool true) ∧ Below w.heap.size w w'
theorem read_lit (s : ByteArray) (a b : Int) (h : readL s.data.toList = (a, b)) (hs : s.size ≤ 1000) (w : World) :
    Calls Tryd.prog 9 #[.string s] w fun e w' => e = .returned (.tuple #[.int .i64 a, .int .i64 b]) ∧ w = w' := by
  have hh := read_any s w (by omega)
  rwa [h] at hh
theorem add_lit (a b : Int) (v : Value) (h : fitV (a + b) = v) (a0 : -9223372036854775808 ≤ a) (a1 : a ≤ 9223372036854775807) (b0 : -9223372036854775808 ≤ b) (b1 : b ≤ 9223372036854775807) (w : World) :
    Calls Tryd.prog 15 #[.int .i64 a, .int .i64 b] w fun e w' => e = .returned v ∧ w = w' := by
  subst h
  exact addP_any a b a0 a1 b0 b1 w
theorem mul_lit (a b : Int) (v : Value) (h : fitV (a * b) = v) (a0 : -9223372036854775808 ≤ a) (a1 : a ≤ 9223372036854775807) (b0 : -9223372036854775808 ≤ b) (b1 : b ≤ 9223372036854775807) (w : World) :
    Calls Tryd.prog 17 #[.int .i64 a, .int .i64 b] w fun e w' => e = .returned v ∧ w = w' := by
  subst h
  exact mulP_any a b a0 a1 b0 b1 w
theorem itoa_least : itoa (-9223372036854775808) = [45, 57, 50, 50, 51, 51, 55, 50, 48, 51, 54, 56, 53, 52, 55, 55, 53, 56, 48, 56] := by
  have h := dec_back 19 [57, 50, 50, 51, 51, 55, 50, 48, 51, 54, 56, 53, 52, 55, 55, 53, 56, 48, 56] rfl (by decide) (by decide) (by decide)
  rw [show P 0 [57, 50, 50, 51, 51, 55, 50, 48, 51, 54, 56, 53, 52, 55, 55, 53, 56, 48, 56] = 9223372036854775808 from by decide +kernel] at h
  unfold itoa
  rw [if_pos (by decide), show (-9223372036854775808 : Int).natAbs = 9223372036854775808 from rfl, h]
theorem itoa_small {n : Nat} (h : n < 10) : itoa (n : Int) = [UInt8.ofNat (48 + n)] := by
  unfold itoa
  rw [if_neg (by omega), Int.toNat_natCast, dec_small h]
theorem itoa_2 : itoa (-2) = [45, 50] := by
  unfold itoa
  rw [if_pos (by decide), show (-2 : Int).natAbs = 2 from rfl, dec_small (by decide)]
  rfl
theorem itoa_30 : itoa 30 = [51, 48] := by
  unfold itoa
  rw [if_neg (by decide), show (30 : Int).toNat = 30 from rfl, dec_big (by decide), dec_small (by decide)]
  rfl
theorem words3 : wordsK [1, -2, 30] 3 = [49, 32, 45, 50, 32, 51, 48] := by
  have e1 : itoa 1 = [49] := itoa_small (n := 1) (by decide)
  have h1 : wordsK [1, -2, 30] 1 = [49] := by
    show [] ++ itoa 1 = _
    rw [e1]; rfl
  have h2 : wordsK [1, -2, 30] 2 = [49, 32, 45, 50] := by
    show wordsK [1, -2, 30] 1 ++ [32] ++ itoa (-2) = _
    rw [h1, itoa_2]; rfl
  show wordsK [1, -2, 30] 2 ++ [32] ++ itoa 30 = _
  rw [h2, itoa_30]; rfl
set_option maxHeartbeats 4000000 in
set_option maxRecDepth 100000 in
theorem lives_any (W : World) (hp : Pow W) : Calls Tryd.prog 8 #[] W (TruePost W) := by
  have HP := Lib.hid hp
  clear hp
  have R1 := Lib.hid (read_lit ⟨#[50, 49, 52, 55, 52, 56, 51, 54, 52, 55]⟩ 2147483647 0 (by decide +kernel) (by decide))
  have R2 := Lib.hid (read_lit ⟨#[50, 49, 52, 55, 52, 56, 51, 54, 52, 56]⟩ 0 1 (by decide +kernel) (by decide))
  have R3 := Lib.hid (read_lit ⟨#[48, 48, 55]⟩ 0 10 (by decide +kernel) (by decide))
  have R4 := Lib.hid (read_lit ⟨#[45, 49]⟩ 0 10 (by decide +kernel) (by decide))
  have R5 := Lib.hid (read_lit ⟨#[48]⟩ 0 0 (by decide +kernel) (by decide))
  have R6 := Lib.hid (read_lit ⟨#[57, 57, 57, 57, 57, 57, 57, 57, 57, 57, 57, 57, 57, 57, 57, 57, 57, 57, 57, 57, 57, 57, 57]⟩ 0 1 (by decide +kernel) (by decide))
  have A1 := Lib.hid (add_lit 9223372036854775807 (-1) (.tuple #[.int .i64 9223372036854775806, .bool true]) (fitV_yes (by decide)) (by decide) (by decide) (by decide) (by decide))
  have A2 := Lib.hid (add_lit 9223372036854775807 1 (.tuple #[.int .i64 0, .bool false]) (fitV_no (by decide)) (by decide) (by decide) (by decide) (by decide))
  have M1 := Lib.hid (mul_lit (-3) 4 (.tuple #[.int .i64 (-12), .bool true]) (fitV_yes (by decide)) (by decide) (by decide) (by decide) (by decide))
  have M2 := Lib.hid (mul_lit (-9223372036854775808) (-1) (.tuple #[.int .i64 0, .bool false]) (fitV_no (by decide)) (by decide) (by decide) (by decide) (by decide))
  have T1 : Hid (∀ w, Pow w → Calls Tryd.prog 11 #[.int .i64 (-9223372036854775808)] w (TextPost [45, 57, 50, 50, 51, 51, 55, 50, 48, 51, 54, 56, 53, 52, 55, 55, 53, 56, 48, 56] w)) := Lib.hid fun w hp => by
    have h := text_any (-9223372036854775808) (by decide) (by decide) w hp
    rwa [itoa_least] at h
  have T2 : Hid (∀ w, Pow w → Calls Tryd.prog 11 #[.int .i64 0] w (TextPost [48] w)) := Lib.hid fun w hp => by
    have h := text_any 0 (by decide) (by decide) w hp
    rwa [show itoa 0 = [48] from itoa_small (n := 0) (by decide)] at h
  have T3 : Hid (∀ w, Pow w → Calls Tryd.prog 13 #[.slice (some ⟨w.heap.size, 0, none⟩) 3 3] (w.alloc (.cells #[.int .i64 1, .int .i64 (-2), .int .i64 30] 3)) (TextPost [49, 32, 45, 50, 32, 51, 48] (w.alloc (.cells #[.int .i64 1, .int .i64 (-2), .int .i64 30] 3)))) := Lib.hid fun w hp => by
    have h := words_any (w.alloc (.cells #[.int .i64 1, .int .i64 (-2), .int .i64 30] 3)) (lit_ints [1, -2, 30] w 3 _ rfl (by decide) 3 rfl) (by decide) (by decide) (hp.below ((Below.refl _ _).alloc (Nat.le_refl _) _))
    rwa [show wordsK [1, -2, 30] [1, -2, 30].length = _ from words3] at h
  go_enter Tryd.func8, Tryd.ntmps8
  go_wp2_with fail
  refine (R1.out _).mono ?_
  rintro e wx ⟨rfl, rfl⟩
  clear R1
  go_wp2_with fail
  refine (R2.out _).mono ?_
  rintro e wx ⟨rfl, rfl⟩
  clear R2
  go_wp2_with fail
  refine (R3.out _).mono ?_
  rintro e wx ⟨rfl, rfl⟩
  clear R3
  go_wp2_with fail
  refine (R4.out _).mono ?_
  rintro e wx ⟨rfl, rfl⟩
  clear R4
  go_wp2_with fail
  refine (R5.out _).mono ?_
  rintro e wx ⟨rfl, rfl⟩
  clear R5
  go_wp2_with fail
  refine (R6.out _).mono ?_
  rintro e wx ⟨rfl, rfl⟩
  clear R6
  go_wp2_with fail
  refine (A1.out _).mono ?_
  rintro e wx ⟨rfl, rfl⟩
  clear A1
  go_wp2_with fail
  refine (A2.out _).mono ?_
  rintro e wx ⟨rfl, rfl⟩
  clear A2
  go_wp2_with fail
  refine (M1.out _).mono ?_
  rintro e wx ⟨rfl, rfl⟩
  clear M1
  go_wp2_with fail
  refine (M2.out _).mono ?_
  rintro e wx ⟨rfl, rfl⟩
  clear M2
  go_wp2_with fail
  refine (T1.out _ HP.out).mono ?_
  rintro e w1 ⟨rfl, hb⟩
  have P1 := Lib.hid (And.intro (HP.out.below hb) hb)
  clear T1 HP hb
  go_wp2_with fail
  refine (T2.out _ P1.out.1).mono ?_
  rintro e w2 ⟨rfl, hb⟩
  have P2 := Lib.hid (And.intro (P1.out.1.below hb) (P1.out.2.trans (hb.mono P1.out.2.size)))
  clear T2 P1 hb
  go_wp2_with fail
  refine (T3.out _ P2.out.1).mono ?_
  rintro e w3 ⟨rfl, hb⟩
  have P3 := Lib.hid ((P2.out.2.alloc P2.out.2.size (.cells #[.int .i64 1, .int .i64 (-2), .int .i64 30] 3)).trans (hb.mono (by have := P2.out.2.size; simp; omega)))
  clear T3 P2 hb
  go_wp2
  go_ret
  exact ⟨rfl, P3.out⟩
end Go.Proofs.YtjipompbpnebjaaDoor.Nu
