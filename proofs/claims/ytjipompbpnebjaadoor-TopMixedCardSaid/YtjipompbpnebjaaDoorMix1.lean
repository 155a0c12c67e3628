/-
  Contracts of the program's mixes: fold, unfold, Mix, Unmix. Not a statement of the seat.
-/
import Derived.Test.YtjipompbpnebjaaDoorMxMath
import Derived.Test.YtjipompbpnebjaaDoorLst
namespace Go.Proofs.YtjipompbpnebjaaDoor.Mx
open Go.ChangeShapes Go.WideShapes Go.ChangeAt Go.RowKit Base Lst
set_option maxHeartbeats 1000000 in
theorem foldP_any (x n : Nat) (w : World) (hx : x < 18446744073709551616) (hn : n < 64) :
    Calls Tryd.prog 31 #[.int .u64 (x : Int), .int .i64 (n : Int)] w fun e w' => e = .returned (.int .u64 (foldN x n : Nat)) ∧ w = w' := by
  have hd : x / 2 ^ n < 18446744073709551616 := Nat.lt_of_le_of_lt (Nat.div_le_self _ _) hx
  have HX : Hid (bits .xor .u64 (x : Int) ((x / 2 ^ n : Nat) : Int) = (foldN x n : Nat)) := Lib.hid (u64_xor_nat x _ hx hd)
  generalize foldN x n = r at HX ⊢
  go_enter Tryd.func31, Tryd.ntmps31
  go_wp2
  go_ret
  exact ⟨ret_int HX.out, rfl⟩
/-- One step of unfolding. -/
def stepN (y x n : Nat) : Nat := y ^^^ (x / 2 ^ n)
theorem stepN_lt {y x n : Nat} (hy : y < 18446744073709551616) (hx : x < 18446744073709551616) : stepN y x n < 18446744073709551616 :=
  Nat.xor_lt_two_pow (n := 64) hy (Nat.lt_of_le_of_lt (Nat.div_le_self _ _) hx)
set_option maxHeartbeats 1000000 in
theorem unfold32_any (x : Nat) (w : World) (hx : x < 18446744073709551616) :
    Calls Tryd.prog 32 #[.int .u64 (x : Int), .int .i64 32] w fun e w' => e = .returned (.int .u64 (foldN x 32 : Nat)) ∧ w = w' := by
  have hd : x / 2 ^ 32 < 18446744073709551616 := Nat.lt_of_le_of_lt (Nat.div_le_self _ _) hx
  have HX : Hid (bits .xor .u64 (x : Int) ((x / 2 ^ 32 : Nat) : Int) = (foldN x 32 : Nat)) := Lib.hid (u64_xor_nat x _ hx hd)
  have hr : foldN x 32 < 18446744073709551616 := foldN_lt hx
  generalize foldN x 32 = r at HX hr ⊢
  go_enter Tryd.func32, Tryd.ntmps32
  go_wp2
  go_loop [5, 6] (fun s5 s6 => (s6 = .int .i64 32 ∧ s5 = .int .u64 (x : Int)) ∨ (s6 = .int .i64 64 ∧ s5 = .int .u64 (r : Int))) (fun _ s6 => (64 - intOf s6).toNat)
  case atStart => exact .inl ⟨rfl, rfl⟩
  case round =>
    rcases hrel with ⟨rfl, rfl⟩ | ⟨rfl, rfl⟩
    · go_wp2
      go_round
      case rel => exact .inr ⟨rfl, by rw [← HX.out]; rfl⟩
      case measure => simp [intOf]
    · go_wp2
      go_ret
      exact ⟨rfl, rfl⟩
set_option maxHeartbeats 1000000 in
theorem unfold29_any (x : Nat) (w : World) (hx : x < 18446744073709551616) :
    Calls Tryd.prog 32 #[.int .u64 (x : Int), .int .i64 29] w fun e w' => e = .returned (.int .u64 (unf29 x : Nat)) ∧ w = w' := by
  have hd : x / 2 ^ 29 < 18446744073709551616 := Nat.lt_of_le_of_lt (Nat.div_le_self _ _) hx
  have hd2 : x / 2 ^ 58 < 18446744073709551616 := Nat.lt_of_le_of_lt (Nat.div_le_self _ _) hx
  have HX : Hid (bits .xor .u64 (x : Int) ((x / 2 ^ 29 : Nat) : Int) = (stepN x x 29 : Nat)) := Lib.hid (u64_xor_nat x _ hx hd)
  have HY : Hid (bits .xor .u64 ((stepN x x 29 : Nat) : Int) ((x / 2 ^ 58 : Nat) : Int) = (unf29 x : Nat)) := Lib.hid (u64_xor_nat _ _ (stepN_lt hx hx) hd2)
  have hq : stepN x x 29 < 18446744073709551616 := stepN_lt hx hx
  have hr : unf29 x < 18446744073709551616 := unf29_lt hx
  generalize stepN x x 29 = q at HX HY hq
  generalize unf29 x = r at HY hr ⊢
  go_enter Tryd.func32, Tryd.ntmps32
  go_wp2
  go_loop [5, 6] (fun s5 s6 => (s6 = .int .i64 29 ∧ s5 = .int .u64 (x : Int)) ∨ (s6 = .int .i64 58 ∧ s5 = .int .u64 (q : Int)) ∨ (s6 = .int .i64 87 ∧ s5 = .int .u64 (r : Int))) (fun _ s6 => (64 - intOf s6).toNat)
  case atStart => exact .inl ⟨rfl, rfl⟩
  case round =>
    rcases hrel with ⟨rfl, rfl⟩ | ⟨rfl, rfl⟩ | ⟨rfl, rfl⟩
    · go_wp2
      go_round
      case rel => exact .inr (.inl ⟨rfl, by rw [← HX.out]; rfl⟩)
      case measure => simp [intOf]
    · go_wp2
      go_round
      case rel => exact .inr (.inr ⟨rfl, by rw [← HY.out]; rfl⟩)
      case measure => simp [intOf]
    · go_wp2
      go_ret
      exact ⟨rfl, rfl⟩
set_option maxHeartbeats 1000000 in
theorem mixP_any (x : Nat) (w : World) (hx : x < 18446744073709551616) :
    Calls Tryd.prog 19 #[.int .u64 (x : Int)] w fun e w' => e = .returned (.int .u64 (mixN x : Nat)) ∧ w = w' := by
  have H1 : Hid (Calls Tryd.prog 31 #[.int .u64 (x : Int), .int .i64 32] w fun e w' => e = .returned (.int .u64 (foldN x 32 : Nat)) ∧ w = w') := Lib.hid (foldP_any x 32 w hx (by decide))
  have hm1 : IntKind.u64.wrap (((foldN x 32 : Nat) : Int) * 15485907386658061715) = ((mulN (foldN x 32) 15485907386658061715 : Nat) : Int) := mulN_wrap (foldN x 32) 15485907386658061715
  have HM : Hid (mixN x = foldN (mulN (foldN (mulN (foldN x 32) 15485907386658061715) 29) 11562461410679940143) 32) := Lib.hid (mixN_eq x)
  have hl1 := mulN_lt (foldN x 32) 15485907386658061715
  generalize mixN x = r at HM ⊢
  generalize foldN x 32 = a at H1 hm1 hl1 HM
  generalize mulN a 15485907386658061715 = b at hm1 hl1 HM
  have H2 : Hid (Calls Tryd.prog 31 #[.int .u64 (b : Int), .int .i64 29] w fun e w' => e = .returned (.int .u64 (foldN b 29 : Nat)) ∧ w = w') := Lib.hid (foldP_any b 29 w hl1 (by decide))
  have hm2 : IntKind.u64.wrap (((foldN b 29 : Nat) : Int) * 11562461410679940143) = ((mulN (foldN b 29) 11562461410679940143 : Nat) : Int) := mulN_wrap (foldN b 29) 11562461410679940143
  have hl2 := mulN_lt (foldN b 29) 11562461410679940143
  generalize foldN b 29 = c at H2 hm2 hl2 HM
  generalize mulN c 11562461410679940143 = d at hm2 hl2 HM
  have H3 : Hid (Calls Tryd.prog 31 #[.int .u64 (d : Int), .int .i64 32] w fun e w' => e = .returned (.int .u64 (foldN d 32 : Nat)) ∧ w = w') := Lib.hid (foldP_any d 32 w hl2 (by decide))
  rw [← HM.out] at H3
  clear hl1 hl2 HM
  go_enter Tryd.func19, Tryd.ntmps19
  go_wp2_with fail
  refine (H1.out).mono ?_
  rintro e w1 ⟨rfl, rfl⟩
  go_wp2_with fail
  refine (H2.out).mono ?_
  rintro e w1 ⟨rfl, rfl⟩
  go_wp2_with fail
  refine (H3.out).mono ?_
  rintro e w1 ⟨rfl, rfl⟩
  go_wp2
  go_ret
  exact ⟨rfl, rfl⟩
theorem unmixN_eq (y : Nat) : unmixN y = foldN (mulN (unf29 (mulN (foldN y 32) 10636502746458383055)) 14982988110149298331) 32 := by unfold unmixN; rfl
set_option maxHeartbeats 1000000 in
theorem unmixP_any (x : Nat) (w : World) (hx : x < 18446744073709551616) :
    Calls Tryd.prog 20 #[.int .u64 (x : Int)] w fun e w' => e = .returned (.int .u64 (unmixN x : Nat)) ∧ w = w' := by
  have H1 : Hid (Calls Tryd.prog 32 #[.int .u64 (x : Int), .int .i64 32] w fun e w' => e = .returned (.int .u64 (foldN x 32 : Nat)) ∧ w = w') := Lib.hid (unfold32_any x w hx)
  have hm1 : IntKind.u64.wrap (((foldN x 32 : Nat) : Int) * 10636502746458383055) = ((mulN (foldN x 32) 10636502746458383055 : Nat) : Int) := mulN_wrap (foldN x 32) 10636502746458383055
  have HM := Lib.hid (unmixN_eq x)
  have hl1 := mulN_lt (foldN x 32) 10636502746458383055
  generalize unmixN x = r at HM ⊢
  generalize foldN x 32 = a at H1 hm1 hl1 HM
  generalize mulN a 10636502746458383055 = b at hm1 hl1 HM
  have H2 : Hid (Calls Tryd.prog 32 #[.int .u64 (b : Int), .int .i64 29] w fun e w' => e = .returned (.int .u64 (unf29 b : Nat)) ∧ w = w') := Lib.hid (unfold29_any b w hl1)
  have hm2 : IntKind.u64.wrap (((unf29 b : Nat) : Int) * 14982988110149298331) = ((mulN (unf29 b) 14982988110149298331 : Nat) : Int) := mulN_wrap (unf29 b) 14982988110149298331
  have hl2 := mulN_lt (unf29 b) 14982988110149298331
  generalize unf29 b = c at H2 hm2 hl2 HM
  generalize mulN c 14982988110149298331 = d at hm2 hl2 HM
  have H3 : Hid (Calls Tryd.prog 32 #[.int .u64 (d : Int), .int .i64 32] w fun e w' => e = .returned (.int .u64 (foldN d 32 : Nat)) ∧ w = w') := Lib.hid (unfold32_any d w hl2)
  rw [← HM.out] at H3
  clear hl1 hl2 HM
  go_enter Tryd.func20, Tryd.ntmps20
  go_wp2_with fail
  refine (H1.out).mono ?_
  rintro e w1 ⟨rfl, rfl⟩
  go_wp2_with fail
  refine (H2.out).mono ?_
  rintro e w1 ⟨rfl, rfl⟩
  go_wp2_with fail
  refine (H3.out).mono ?_
  rintro e w1 ⟨rfl, rfl⟩
  go_wp2
  go_ret
  exact ⟨rfl, rfl⟩
end Go.Proofs.YtjipompbpnebjaaDoor.Mx
