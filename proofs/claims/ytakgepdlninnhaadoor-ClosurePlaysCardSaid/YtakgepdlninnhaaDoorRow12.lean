/-
  Contracts of Or, Minus, And, New, Of, Copy, Moved for whatever rows, in one form. Not a statement of the seat.
-/
import Derived.Test.YtakgepdlninnhaaDoorHead17
import Derived.Test.YtakgepdlninnhaaDoorHead16
import Derived.Test.YtakgepdlninnhaaDoorRow6
namespace Go.Proofs.YtakgepdlninnhaaDoor.Bits
open Go.ChangeShapes Go.WideShapes Go.ChangeAt Go.RowKit Base Go.Shelf
/-- V's places that O hasn't. -/
def minusV (V O : Nat) : Nat := V ^^^ (V &&& O)
theorem minusV_testBit (V O i : Nat) : (minusV V O).testBit i = (V.testBit i && !O.testBit i) := by
  unfold minusV
  rw [Nat.testBit_xor, Nat.testBit_and]
  cases V.testBit i <;> cases O.testBit i <;> rfl
theorem orV_testBit (n V O i : Nat) : (orV n V O).testBit i = (V.testBit i || (decide (i < n) && O.testBit i)) := by
  unfold orV
  rw [Nat.testBit_or, Nat.testBit_mod_two_pow]
theorem lt_of_bits {n A : Nat} (h : ∀ i, n ≤ i → A.testBit i = false) : A < 2 ^ n := by
  rcases Nat.lt_or_ge A (2 ^ n) with h1 | h1
  · exact h1
  · obtain ⟨i, hi, hb⟩ := Nat.exists_ge_and_testBit_of_ge_two_pow h1
    rw [h i hi] at hb; cases hb
theorem high_bit {n V i : Nat} (hV : V < 2 ^ n) (hi : n ≤ i) : V.testBit i = false := Nat.testBit_lt_two_pow (Nat.lt_of_lt_of_le hV (Nat.pow_le_pow_right (by decide) hi))
theorem minusV_lt {n V O : Nat} (hV : V < 2 ^ n) : minusV V O < 2 ^ n := lt_of_bits fun i hi => by rw [minusV_testBit, high_bit hV hi]; rfl
theorem andV_lt {n V O : Nat} (hV : V < 2 ^ n) : V &&& O < 2 ^ n := lt_of_bits fun i hi => by rw [Nat.testBit_and, high_bit hV hi]; rfl
theorem not_testBit {x j : Nat} (hx : x < 18446744073709551616) (hj : j < 64) : (18446744073709551615 - x).testBit j = !x.testBit j := by
  have h := Nat.testBit_two_pow_sub_succ (n := 64) (x := x) hx j
  rw [show (2 ^ 64 - (x + 1) : Nat) = 18446744073709551615 - x by omega, decide_eq_true hj] at h
  rw [h]; rfl
theorem minusV_word {n V O : Nat} (hV : V < 2 ^ n) (k : Nat) : (wrd V k &&& (18446744073709551615 - wrd O k)) &&& mask n k = wrd (minusV V O) k := by
  apply Nat.eq_of_testBit_eq
  intro j
  rw [wrd_testBit, minusV_testBit, Nat.testBit_and, Nat.testBit_and, wrd_testBit]
  by_cases hj : j < 64
  · rw [mask_testBit _ _ _ hj, not_testBit (wrd_lt _ _) hj, wrd_testBit, decide_eq_true hj]
    by_cases hi : 64 * k + j < n
    · simp [hi]
    · rw [high_bit hV (by omega)]; simp
  · simp [hj]
theorem andV_word {n V O : Nat} (hV : V < 2 ^ n) (k : Nat) : (wrd V k &&& wrd O k) &&& mask n k = wrd (V &&& O) k := by
  apply Nat.eq_of_testBit_eq
  intro j
  rw [wrd_testBit, Nat.testBit_and, Nat.testBit_and, Nat.testBit_and, wrd_testBit, wrd_testBit]
  by_cases hj : j < 64
  · rw [mask_testBit _ _ _ hj, decide_eq_true hj]
    by_cases hi : 64 * k + j < n
    · simp [hi]
    · rw [high_bit hV (by omega)]; simp
  · simp [hj]
theorem minus1_any (x y : Nat) (wx : World) (hx : x < 18446744073709551616) (hy : y < 18446744073709551616) : Calls Tryd.prog 62 #[.int .u64 (x : Int), .int .u64 (y : Int)] wx fun e w' => e = .returned (.int .u64 (x &&& (18446744073709551615 - y) : Nat)) ∧ w' = wx := by
  have hb := u64_andNot_nat x y hx hy
  generalize (x &&& (18446744073709551615 - y) : Nat) = z at hb ⊢
  go_enter Tryd.func62, Tryd.ntmps62
  go_wp2
  go_ret
  exact ⟨rfl, rfl⟩
theorem and1_any (x y : Nat) (wx : World) (hx : x < 18446744073709551616) (hy : y < 18446744073709551616) : Calls Tryd.prog 70 #[.int .u64 (x : Int), .int .u64 (y : Int)] wx fun e w' => e = .returned (.int .u64 (x &&& y : Nat)) ∧ w' = wx := by
  have hb := u64_and_nat x y hx hy
  go_enter Tryd.func70, Tryd.ntmps70
  go_wp2
  go_ret
  exact ⟨rfl, rfl⟩
section
variable {b bo : Nat} {w : World} {res : Bool} {R : World → Prop}
theorem or_of (hm : Calls Tryd.prog 56 #[.pointer (some ⟨b, 0, none⟩), .pointer (some ⟨bo, 0, none⟩), .func (.func 57) #[] #[]] w fun e w' => e = .returned (.bool res) ∧ R w') :
    Calls Tryd.prog 41 #[.pointer (some ⟨b, 0, none⟩), .pointer (some ⟨bo, 0, none⟩)] w fun e w' => e = .returned (.bool res) ∧ R w' := by
  have HM := Lib.hid hm
  clear hm
  go_enter Tryd.func41, Tryd.ntmps41
  go_wp2_with fail
  refine (HM.out).mono ?_
  rintro e w1 ⟨rfl, hr⟩
  go_wp2
  go_ret
  exact ⟨rfl, hr⟩
theorem minus_of (hm : Calls Tryd.prog 56 #[.pointer (some ⟨b, 0, none⟩), .pointer (some ⟨bo, 0, none⟩), .func (.func 62) #[] #[]] w fun e w' => e = .returned (.bool res) ∧ R w') :
    Calls Tryd.prog 46 #[.pointer (some ⟨b, 0, none⟩), .pointer (some ⟨bo, 0, none⟩)] w fun e w' => e = .returned (.bool res) ∧ R w' := by
  have HM := Lib.hid hm
  clear hm
  go_enter Tryd.func46, Tryd.ntmps46
  go_wp2_with fail
  refine (HM.out).mono ?_
  rintro e w1 ⟨rfl, hr⟩
  go_wp2
  go_ret
  exact ⟨rfl, hr⟩
theorem and_of (hm : Calls Tryd.prog 56 #[.pointer (some ⟨b, 0, none⟩), .pointer (some ⟨bo, 0, none⟩), .func (.func 70) #[] #[]] w fun e w' => e = .returned (.bool res) ∧ R w') :
    Calls Tryd.prog 61 #[.pointer (some ⟨b, 0, none⟩), .pointer (some ⟨bo, 0, none⟩)] w fun e w' => e = .returned (.bool res) ∧ R w' := by
  have HM := Lib.hid hm
  clear hm
  go_enter Tryd.func61, Tryd.ntmps61
  go_wp2_with fail
  refine (HM.out).mono ?_
  rintro e w1 ⟨rfl, hr⟩
  go_wp2
  go_ret
  exact ⟨rfl, hr⟩
end
theorem not_lt (x y : Nat) (hx : x < 18446744073709551616) : x &&& (18446744073709551615 - y) < 18446744073709551616 := Nat.lt_of_le_of_lt Nat.and_le_left hx
/-- What a change of a row in place leaves. -/
def Turned (b g n V V' : Nat) (w : World) (e : Ending) (w' : World) : Prop := e = .returned (.bool (decide (V' ≠ V))) ∧ RowAt w' b g n V' ∧ w.grownBy w' (some g)
theorem minus_row (b g n V bo go no O : Nat) (w : World) (h : RowAt w b g n V) (ho : RowAt w bo go no O) (hne : bo ≠ g ∧ go ≠ g) :
    Calls Tryd.prog 46 #[.pointer (some ⟨b, 0, none⟩), .pointer (some ⟨bo, 0, none⟩)] w (Turned b g n V (minusV V O) w) :=
  minus_of (merge_any b g n V bo go no O 62 (fun x y => x &&& (18446744073709551615 - y)) (minusV V O) (minusV_lt h.2.2.2) (fun x y hx _ => not_lt x y hx) (fun x y wx hx hy => minus1_any x y wx hx hy) (enters_of Tryd.func62 (by kernel_rfl) rfl) (fun k _ => minusV_word h.2.2.2 k) w h ho hne)
theorem and_row (b g n V bo go no O : Nat) (w : World) (h : RowAt w b g n V) (ho : RowAt w bo go no O) (hne : bo ≠ g ∧ go ≠ g) :
    Calls Tryd.prog 61 #[.pointer (some ⟨b, 0, none⟩), .pointer (some ⟨bo, 0, none⟩)] w (Turned b g n V (V &&& O) w) :=
  and_of (merge_any b g n V bo go no O 70 (fun x y => x &&& y) (V &&& O) (andV_lt h.2.2.2) (fun _ _ hx _ => Nat.lt_of_le_of_lt Nat.and_le_left hx) (fun x y wx hx hy => and1_any x y wx hx hy) (enters_of Tryd.func70 (by kernel_rfl) rfl) (fun k _ => andV_word h.2.2.2 k) w h ho hne)
theorem or_row (b g n V bo go no O : Nat) (w : World) (h : RowAt w b g n V) (ho : RowAt w bo go no O) (hne : bo ≠ g ∧ go ≠ g) :
    Calls Tryd.prog 41 #[.pointer (some ⟨b, 0, none⟩), .pointer (some ⟨bo, 0, none⟩)] w (Turned b g n V (orV n V O) w) := or_any b g n V bo go no O w h ho hne
theorem minus_same (b g n V : Nat) (w : World) (h : RowAt w b g n V) :
    Calls Tryd.prog 46 #[.pointer (some ⟨b, 0, none⟩), .pointer (some ⟨b, 0, none⟩)] w (Turned b g n V (minusV V V) w) :=
  minus_of (merge_self b g n V 62 (fun x y => x &&& (18446744073709551615 - y)) (minusV V V) (minusV_lt h.2.2.2) (fun x y hx _ => not_lt x y hx) (fun x y wx hx hy => minus1_any x y wx hx hy) (enters_of Tryd.func62 (by kernel_rfl) rfl) (fun k _ => minusV_word h.2.2.2 k) w h)
theorem and_same (b g n V : Nat) (w : World) (h : RowAt w b g n V) :
    Calls Tryd.prog 61 #[.pointer (some ⟨b, 0, none⟩), .pointer (some ⟨b, 0, none⟩)] w (Turned b g n V (V &&& V) w) :=
  and_of (merge_self b g n V 70 (fun x y => x &&& y) (V &&& V) (andV_lt h.2.2.2) (fun _ _ hx _ => Nat.lt_of_le_of_lt Nat.and_le_left hx) (fun x y wx hx hy => and1_any x y wx hx hy) (enters_of Tryd.func70 (by kernel_rfl) rfl) (fun k _ => andV_word h.2.2.2 k) w h)
theorem or_same (b g n V : Nat) (w : World) (h : RowAt w b g n V) :
    Calls Tryd.prog 41 #[.pointer (some ⟨b, 0, none⟩), .pointer (some ⟨b, 0, none⟩)] w (Turned b g n V (orV n V V) w) :=
  or_of (merge_self b g n V 57 (fun x y => x ||| y) (orV n V V) (orV_lt h.2.2.2) (fun x y hx hy => Nat.or_lt_two_pow (n := 64) hx hy) (fun x y wx hx hy => or1_any x y wx hx hy) (enters_of Tryd.func57 (by kernel_rfl) rfl) (fun k _ => orV_word h.2.2.2 k) w h)
/-- A new row of length n whose set places are V's bits has been told. -/
def RowNew (n V : Nat) (w : World) (e : Ending) (w' : World) : Prop :=
  ∃ b g, e = .returned (.pointer (some ⟨b, 0, none⟩)) ∧ RowAt w' b g n V ∧ Below w.heap.size w w' ∧ w.heap.size ≤ b ∧ w.heap.size ≤ g
theorem new_row (n : Int) (w : World) : Calls Tryd.prog 29 #[.int .i64 n] w (RowNew (rowLen n) 0 w) :=
  (new_any n w).mono fun _ _ h => ⟨_, _, h.1, h.2.1, h.2.2, by omega, Nat.le_refl _⟩
theorem copy_row (b g n V : Nat) (w : World) (h : RowAt w b g n V) : Calls Tryd.prog 55 #[.pointer (some ⟨b, 0, none⟩)] w (RowNew n V w) :=
  (copy_any b g n V w h).mono fun _ _ h => ⟨_, _, h.1, h.2.1, h.2.2, by omega, Nat.le_refl _⟩
theorem copy_none (w : World) : Calls Tryd.prog 55 #[.pointer none] w (RowNew 0 0 w) :=
  (copy_nil w).mono fun _ _ h => ⟨_, _, h.1, h.2.1, h.2.2, by omega, Nat.le_refl _⟩
theorem of_nil (n : Int) (p : Option Addr) (c : Nat) (w : World) : Calls Tryd.prog 47 #[.int .i64 n, .slice p 0 c] w (RowNew (rowLen n) 0 w) := by
  have HN := Lib.hid (new_row n w)
  go_enter Tryd.func47, Tryd.ntmps47
  go_wp2_with fail
  refine (HN.out).mono ?_
  rintro e w1 ⟨b, g, rfl, hr, hb, h1, h2⟩
  have HR := Lib.hid hr
  have HB := Lib.hid hb
  clear hr hb HN
  go_wp2_with fail
  refine wp_loop_rounds 1 ?_
  rw [rounds_succ]
  go_wp2
  go_ret
  exact ⟨b, g, rfl, HR.out, HB.out, h1, h2⟩
theorem of_row {base : Nat} {v : Value} {zs : List Int} (n : Int) (w : World) (h : Ints base w v zs) : Calls Tryd.prog 47 #[.int .i64 n, v] w (RowNew (rowLen n) (ofV (rowLen n) zs) w) := by
  rcases h with ⟨⟨p, c, rfl⟩, rfl⟩ | ⟨g, o, c, rfl, _, h2, h3, h4⟩
  · exact of_nil n p c w
  · exact (of_any n g o c zs w h4 h3 h2).mono fun _ _ h => ⟨_, _, h.1, h.2.1, h.2.2, by omega, Nat.le_refl _⟩
/-- A list that is typed out. -/
theorem lit_ints (zs : List Int) (w : World) (t : TypeId) (vs : Array Value) (hv : vs = (zs.map (Value.int .i64)).toArray) (hl : zs.length ≤ 65536) (m : Nat) (hm : m = zs.length) : Ints w.heap.size (w.alloc (.cells vs t)) (.slice (some ⟨w.heap.size, 0, none⟩) m m) zs := by
  subst hv hm
  refine .inr ⟨w.heap.size, 0, _, rfl, Nat.le_refl _, by simp, by omega, fun k hk => ?_⟩
  simp only [World.cell?, heap_alloc_at _ _ _ rfl, Nat.zero_add]
  simp [List.getD_eq_getElem?_getD, hk]
end Go.Proofs.YtakgepdlninnhaaDoor.Bits
