/-
  What the statements on mixes ask first: answers that the document gives. Not a statement of the seat.
-/
import Derived.Test.YtjipompbpnebjaaMix3
namespace Go.Proofs.Ytjipompbpnebjaa.Mx
open Go.ChangeShapes Go.WideShapes Go.ChangeAt Go.RowKit Base Lst
/-- What a call that tells true, and may make memory, leaves. -/
def TruePost (w : World) (e : Ending) (w' : World) : Prop := e = .returned (.bool true) ∧ Below w.heap.size w w'
/-- Block b is a sum, and what was there in W is as it was. -/
def SI (W w : World) (b s c : Nat) : Prop := SumAt w b s c ∧ Below W.heap.size W w ∧ W.heap.size ≤ b
theorem SI.drewN {W w : World} {b s c : Nat} (h : SI W w b s c) (n : Nat) : SI W (w.drewN n) b s c := ⟨h.1, below_drewN h.2.1 n, h.2.2⟩
theorem SI.below {W w w1 : World} {b s c : Nat} (h : SI W w b s c) (hb : Below w.heap.size w w1) : SI W w1 b s c := ⟨h.1.below hb, h.2.1.trans (hb.mono h.2.1.size), h.2.2⟩
theorem SI.put {W w w1 : World} {b s c s' c' : Nat} (h : SI W w b s c) (hs : SumAt w1 b s' c') (hg : w.grownBy w1 (some b)) : SI W w1 b s' c' := ⟨hs, below_grown h.2.1 (Nat.le_refl _) hg h.2.2, h.2.2⟩
theorem SI.alloc {W w : World} {b s c : Nat} (h : SI W w b s c) (o : Obj) : SI W (w.alloc o) b s c := h.below ((Below.refl _ _).alloc (Nat.le_refl _) o)
theorem lit0 (zs : List Int) (w : World) (vs : Array Value) (hv : vs = (zs.map (Value.int .i64)).toArray) (hl : zs.length ≤ 65536) (m : Nat) (hm : m = zs.length) : Ints w.heap.size (w.alloc (.cells vs 3)) (.slice (some ⟨w.heap.size, 0, none⟩) m m) zs := lit_ints zs w _ vs hv hl m hm
theorem add_lit {W w : World} {b s c : Nat} (h : SI W w b s c) (zs : List Int) (vs : Array Value) (hv : vs = (zs.map (Value.int .i64)).toArray) (hl : zs.length ≤ 65536) (m : Nat) (hm : m = zs.length) (hc : c + zs.length ≤ 1000000000) :
    Calls Try.prog 15 #[.pointer (some ⟨b, 0, none⟩), .slice (some ⟨w.heap.size, 0, none⟩) m m] (w.alloc (.cells vs 3)) (PutPost b (stateN s zs) (c + zs.length) (w.alloc (.cells vs 3))) :=
  add_any (w.alloc (.cells vs 3)) b s c (w.alloc (.cells vs 3)) (lit0 zs w vs hv hl m hm) (Below.refl _ _) (.inr (heap_lt h.1.1)) (h.alloc _).1 hc
theorem mix0 : mixN 0 = 0 := by rw [mixN_eq]; decide +kernel
theorem ints0 : intsN [] = 0 := by
  show mixN ((0 + 0) % 18446744073709551616) = 0
  exact mix0
theorem back7 : mixN (unmixN 7) = 7 := mix_unmix (by decide)
theorem three : valueN (stateN 0 [1, 2, 3]) 3 = intsN [1, 2, 3] := rfl
theorem text_a (w : World) : Calls Try.prog 12 #[.string ⟨#[97]⟩] w (U64Post (intsN [97]) w) := textP_any ⟨#[97]⟩ w (by decide)
set_option maxHeartbeats 2000000 in
set_option maxRecDepth 100000 in
theorem lives_any (W : World) : Calls Try.prog 6 #[] W (TruePost W) := by
  go_enter Try.func6, Try.ntmps6
  go_wp2_with fail
  refine (new_any _).mono ?_
  rintro e w1 ⟨rfl, hS, hB⟩
  have I : Hid (SI W w1 W.heap.size 0 0) := Lib.hid ⟨hS, hB, Nat.le_refl _⟩
  clear hS hB
  have HA := Lib.hid (add_lit I.out [1, 2] #[.int .i64 1, .int .i64 2] rfl (by decide) 2 rfl (by decide))
  go_wp2_with fail
  refine (HA.out).mono ?_
  rintro e w2 ⟨rfl, hS, hg⟩
  have I2 := Lib.hid ((I.out.alloc _).put hS hg)
  clear hS hg HA I
  have HA := Lib.hid (add_any (xs := []) (v := .slice none 0 0) w2 _ _ _ w2 (Ints.nil (base := W.heap.size + 1)) (Below.refl _ _) (.inr (Nat.lt_succ_self _)) I2.out.1 (by decide))
  go_wp2_with fail
  refine (HA.out).mono ?_
  rintro e w3 ⟨rfl, hS, hg⟩
  have I := Lib.hid (I2.out.put hS hg)
  clear hS hg HA I2
  have HA := Lib.hid (add_lit I.out [3] #[.int .i64 3] rfl (by decide) 1 rfl (by decide))
  go_wp2_with fail
  refine (HA.out).mono ?_
  rintro e w4 ⟨rfl, hS, hg⟩
  have I2 := Lib.hid ((I.out.alloc _).put hS hg)
  clear hS hg HA I
  go_wp2_with fail
  refine (add_nil _ _).mono ?_
  rintro e w5 ⟨rfl, rfl⟩
  have I3 : Hid (SI W (w4.alloc (.cells #[.int .i64 5] 3)) W.heap.size (stateN 0 [1, 2, 3]) 3) := Lib.hid (I2.out.alloc (.cells #[.int .i64 5] 3))
  clear I2
  have C0 : ∀ w, Calls Try.prog 7 #[.int .u64 0] w fun e w' => e = .returned (.int .u64 0) ∧ w = w' := fun w => by
    have h := mixP_any 0 w (by decide)
    rwa [mix0] at h
  have C1 : ∀ w, Calls Try.prog 9 #[.int .u64 7] w fun e w' => e = .returned (.int .u64 (unmixN 7 : Nat)) ∧ w = w' := fun w => unmixP_any 7 w (by decide)
  have C2 : ∀ w, Calls Try.prog 7 #[.int .u64 (unmixN 7 : Nat)] w fun e w' => e = .returned (.int .u64 7) ∧ w = w' := fun w => by
    have h := mixP_any (unmixN 7) w (unmixN_lt 7)
    rwa [back7] at h
  have C3 : ∀ w, Calls Try.prog 7 #[.int .u64 1] w fun e w' => e = .returned (.int .u64 (mixN 1 : Nat)) ∧ w = w' := fun w => mixP_any 1 w (by decide)
  have C4 : ∀ w, Calls Try.prog 8 #[.int .u64 1] w fun e w' => e = .returned (.int .u64 (mixN 1 : Nat)) ∧ w = w' := fun w => mixR_any 1 w (by decide)
  have C5 : ∀ w, Calls Try.prog 10 #[.slice none 0 0] w (U64Post 0 w) := fun w => by
    have h := intsP_any (xs := []) (v := .slice none 0 0) w Ints.nil (by decide)
    rwa [ints0] at h
  have C6 : ∀ w, Calls Try.prog 16 #[.pointer none] w (U64Post 0 w) := fun w => by
    have h := value_nil w
    rwa [ints0] at h
  have D0 := Lib.hid C0; have D1 := Lib.hid C1; have D2 := Lib.hid C2; have D3 := Lib.hid C3; have D4 := Lib.hid C4; have D5 := Lib.hid C5; have D6 := Lib.hid C6
  clear C0 C1 C2 C3 C4 C5 C6
  generalize unmixN 7 = u at D1 D2
  generalize mixN 1 = m at D3 D4
  go_wp2_with fail
  refine (D0.out _).mono ?_
  rintro e wx ⟨rfl, rfl⟩
  go_wp2_with fail
  refine (D5.out _).mono ?_
  rintro e w6 ⟨rfl, hb⟩
  have I4 := Lib.hid (I3.out.below hb)
  clear hb I3
  go_wp2_with fail
  refine (D1.out _).mono ?_
  rintro e wx ⟨rfl, rfl⟩
  go_wp2_with fail
  refine (D2.out _).mono ?_
  rintro e wx ⟨rfl, rfl⟩
  go_wp2_with fail
  refine (D3.out _).mono ?_
  rintro e wx ⟨rfl, rfl⟩
  go_wp2_with fail
  refine (D4.out _).mono ?_
  rintro e wx ⟨rfl, rfl⟩
  go_wp2_with fail
  refine (len_any _ _ _ _ I4.out.1).mono ?_
  rintro e wx ⟨rfl, rfl⟩
  have HV := Lib.hid (value_any _ _ _ _ I4.out.1)
  rw [three] at HV
  go_wp2_with fail
  refine (HV.out).mono ?_
  rintro e w7 ⟨rfl, n, rfl⟩
  have I5 := Lib.hid (I4.out.drewN n)
  clear I4 HV
  have HL := Lib.hid (intsR_any ((w6.drewN n).alloc (.cells #[.int .i64 1, .int .i64 2, .int .i64 3] 3)) (lit0 [1, 2, 3] (w6.drewN n) _ rfl (by decide) 3 rfl))
  go_wp2_with fail
  refine (HL.out).mono ?_
  rintro e wx ⟨rfl, rfl⟩
  have I6 := Lib.hid (I5.out.alloc (.cells #[.int .i64 1, .int .i64 2, .int .i64 3] 3))
  clear HL I5
  go_wp2_with fail
  refine (len_nil _).mono ?_
  rintro e wx ⟨rfl, rfl⟩
  go_wp2_with fail
  refine (D6.out _).mono ?_
  rintro e w8 ⟨rfl, hb⟩
  have I7 := Lib.hid (I6.out.below hb)
  clear I6 hb
  go_wp2_with fail
  refine (text_a _).mono ?_
  rintro e w9 ⟨rfl, hb⟩
  have I8 := Lib.hid (I7.out.below hb)
  clear I7 hb
  have HL := Lib.hid (intsR_any (w9.alloc (.cells #[.int .i64 97] 3)) (lit0 [97] w9 _ rfl (by decide) 1 rfl))
  go_wp2_with fail
  refine (HL.out).mono ?_
  rintro e wx ⟨rfl, rfl⟩
  go_wp2
  go_ret
  exact ⟨rfl, (I8.out.alloc (.cells #[.int .i64 97] 3)).2.1⟩
end Go.Proofs.Ytjipompbpnebjaa.Mx
