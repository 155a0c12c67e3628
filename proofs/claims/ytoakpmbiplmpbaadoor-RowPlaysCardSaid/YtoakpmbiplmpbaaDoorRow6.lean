/-
  A contract of Moved: a new row with all places moved. Not a statement of the seat.
-/
import Derived.Test.YtoakpmbiplmpbaaDoorRow5
import Derived.Deep.RegionHeld3
namespace Go.Proofs.YtoakpmbiplmpbaaDoor.Bits
open Go.ChangeShapes Go.WideShapes Go.ChangeAt Go.RowKit Base
/-- V's places moved up by k. -/
def movV (n V : Nat) (k : Int) : Nat := if n ≤ k ∨ k ≤ -n then 0 else if 0 ≤ k then (V * 2 ^ k.toNat) % 2 ^ n else V / 2 ^ (-k).toNat
theorem movV_testBit {n V : Nat} {k : Int} (hV : V < 2 ^ n) (i : Nat) : (movV n V k).testBit i = (decide (i < n) && bitAt V (i - k)) := by
  unfold movV bitAt
  split
  · rename_i h
    rw [Nat.zero_testBit]
    by_cases hi : i < n
    · by_cases h0 : 0 ≤ (i : Int) - k
      · have : n ≤ ((i : Int) - k).toNat := by omega
        rw [Nat.testBit_lt_two_pow (Nat.lt_of_lt_of_le hV (Nat.pow_le_pow_right (by decide) this))]
        simp
      · rw [decide_eq_false h0]; simp
    · simp [hi]
  · rename_i h
    split
    · rename_i hk
      rw [Nat.testBit_mod_two_pow, Nat.mul_comm, Nat.testBit_two_pow_mul]
      congr 1
      by_cases h1 : k.toNat ≤ i
      · rw [decide_eq_true h1, decide_eq_true (by omega), show ((i : Int) - k).toNat = i - k.toNat by omega]
      · rw [decide_eq_false h1, decide_eq_false (by omega)]; rfl
    · rename_i hk
      rw [← Nat.shiftRight_eq_div_pow, Nat.testBit_shiftRight, show decide (0 ≤ (i : Int) - k) = true from decide_eq_true (by omega), Bool.true_and, show ((i : Int) - k).toNat = (-k).toNat + i by omega]
      by_cases hi : i < n
      · rw [decide_eq_true hi, Bool.true_and]
      · rw [decide_eq_false hi, Bool.false_and, Nat.testBit_lt_two_pow (Nat.lt_of_lt_of_le hV (Nat.pow_le_pow_right (by decide) (by omega)))]
theorem movV_lt {n V : Nat} {k : Int} (hV : V < 2 ^ n) : movV n V k < 2 ^ n := by
  apply Nat.lt_pow_two_of_testBit
  intro i hi
  rw [movV_testBit hV, decide_eq_false (by omega), Bool.false_and]
theorem movV_word {n V : Nat} {k : Int} (hV : V < 2 ^ n) (a : Nat) : winV V ((a : Int) * 64 - k) &&& mask n a = wrd (movV n V k) a := by
  apply Nat.eq_of_testBit_eq
  intro j
  rw [wrd_testBit, Nat.testBit_and]
  by_cases hj : j < 64
  · rw [winV_testBit _ _ _ hj, mask_testBit _ _ _ hj, decide_eq_true hj, Bool.true_and, movV_testBit hV, Bool.and_comm, show ((64 * a + j : Nat) : Int) - k = (a : Int) * 64 - k + j by omega]
  · rw [decide_eq_false hj, Bool.false_and, Nat.testBit_lt_two_pow (Nat.lt_of_lt_of_le (winV_lt _ _) (Nat.pow_le_pow_right (n := 2) (i := 64) (by decide) (by omega))), Bool.false_and]
set_option maxHeartbeats 2000000 in
theorem moved_any (b g n V : Nat) (k : Int) (w : World) (h : RowAt w b g n V) :
    Calls Tryd.prog 23 #[.pointer (some ⟨b, 0, none⟩), .int .i64 k] w fun e w' => e = .returned (.pointer (some ⟨w.heap.size + 1, 0, none⟩)) ∧ RowAt w' (w.heap.size + 1) w.heap.size n (movV n V k) ∧ Below w.heap.size w w' := by
  have hn := h.2.2.1
  have HL := Lib.hid (len_any b g n V w h)
  have HN := Lib.hid (new_any n w)
  have hl : rowLen (n : Int) = n := by unfold rowLen; omega
  rw [hl] at HN
  have HR0 := Lib.hid h
  clear h hl
  by_cases hk : n ≤ k ∨ k ≤ -n
  · have hm : movV n V k = 0 := by unfold movV; rw [if_pos hk]
    rw [hm]
    clear hm
    by_cases hk2 : n ≤ k
    · clear hk
      go_enter Tryd.func23, Tryd.ntmps23
      go_wp2_with fail
      refine (HL.out).mono ?_
      rintro e wx ⟨rfl, rfl⟩
      go_wp2_with fail
      refine (HN.out).mono ?_
      rintro e w1 ⟨rfl, hr, hb⟩
      obtain ⟨h0, h1⟩ := hr.head
      have HR := Lib.hid hr
      have HB := Lib.hid hb
      clear hr hb HL HN
      go_wp2
      go_ret
      exact ⟨rfl, HR.out, HB.out⟩
    · have hk3 : k ≤ -n := by omega
      have hk4 : k < n := by omega
      clear hk hk2
      go_enter Tryd.func23, Tryd.ntmps23
      go_wp2_with fail
      refine (HL.out).mono ?_
      rintro e wx ⟨rfl, rfl⟩
      go_wp2_with fail
      refine (HN.out).mono ?_
      rintro e w1 ⟨rfl, hr, hb⟩
      obtain ⟨h0, h1⟩ := hr.head
      have HR := Lib.hid hr
      have HB := Lib.hid hb
      clear hr hb HL HN
      go_wp2
      go_ret
      exact ⟨rfl, HR.out, HB.out⟩
  · have hk1 : k < n := by omega
    have hk2 : -n < k := by omega
    have HV := Lib.hid (HR0.out).2.2.2
    clear hk
    go_enter Tryd.func23, Tryd.ntmps23
    go_wp2_with fail
    refine (HL.out).mono ?_
    rintro e wx ⟨rfl, rfl⟩
    go_wp2_with fail
    refine (HN.out).mono ?_
    rintro e w1 ⟨rfl, hr, hb⟩
    obtain ⟨h0, h1⟩ := hr.head
    have HM := Lib.hid (MixAt.start (A := movV n V k) hr)
    have HB := Lib.hid hb
    clear hr hb HL HN
    go_wp2_with fail
    clear h0 h1
    go_loopw [31] (fun s31 wr => ∃ a : Nat, s31 = .int .i64 a ∧ a ≤ (n + 63) / 64 ∧ MixAt wr (w.heap.size + 1) w.heap.size n (movV n V k) 0 a ∧ Below w.heap.size w wr) (fun s31 _ => (n + 63) / 64 - (intOf s31).toNat)
    case atStart => exact ⟨0, rfl, Nat.zero_le _, HM.out, HB.out⟩
    case round =>
      obtain ⟨a, rfl, ha, hmix, hb⟩ := hrel
      by_cases hlt : a < (n + 63) / 64
      · obtain ⟨h0, h1⟩ := hmix.head
        obtain ⟨h2, h3⟩ := hmix.word hlt
        have HRr := Lib.hid (HR0.out.below hb)
        have HW : Hid (∀ wx, RowAt wx b g n V → Calls Tryd.prog 58 #[.pointer (some ⟨b, 0, none⟩), .int .i64 ((a : Int) * 64 - k)] wx fun e w' => e = .returned (.int .u64 (winV V ((a : Int) * 64 - k) : Nat)) ∧ ∃ p, w' = wx.drewN p) := Lib.hid fun wx hx => window_any b g n V _ (by omega) (by omega) wx hx
        have HP : Hid (∀ wx, wx.cell? ⟨w.heap.size + 1, 0, none⟩ = some (.int .i64 n) → Calls Tryd.prog 59 #[.pointer (some ⟨w.heap.size + 1, 0, none⟩), .int .i64 (a : Int)] wx fun e w' => e = .returned (.int .u64 (mask n a : Nat)) ∧ w' = wx) := Lib.hid fun wx hx => places_any _ n a hlt hn wx hx
        have HX := Lib.hid hmix
        have HB2 := Lib.hid hb
        have hw : bits .and .u64 (winV V ((a : Int) * 64 - k) : Nat) (mask n a : Nat) = (wrd (movV n V k) a : Nat) := by
          rw [u64_and_nat _ _ (winV_lt _ _) (mask_lt _ _), movV_word HV.out]
        clear hmix hb
        go_wp2_with fail
        have hw1 : IntKind.i64.wrap ((a : Int) * 64) = (a : Int) * 64 := by rw [IntKind.wrap_i64]; omega
        have hw2 : IntKind.i64.wrap ((a : Int) * 64 - k) = (a : Int) * 64 - k := by rw [IntKind.wrap_i64]; omega
        go_region_held3 (fun w' => w'.cell? ⟨w.heap.size + 1, 1, none⟩ = some (.slice (some ⟨w.heap.size, 0, none⟩) ((n + 63) / 64) ((n + 63) / 64)))
          (first | (simp [*]; done) | ((try dsimp only); refine (World.cell?_setCell_other _ _ _ _ (by simp)).trans ?_; simp [*]; done))
          ((first | (go_at_call 58; refine (HW.out _ (by exact HRr.out)).mono ?_; rintro e wx ⟨rfl, p, rfl⟩) | (go_at_call 59; refine (HP.out _ (by simp [*])).mono ?_; rintro e wx ⟨rfl, rfl⟩)))
        go_wp2_with fail
        go_roundw
        case rel => exact ⟨a + 1, by go_num, by omega, (HX.out.drewN _).set_ hlt, (below_drewN HB2.out _).setCell (Nat.le_refl _) _⟩
        case measure => simp [intOf]; omega
      · have e : a = (n + 63) / 64 := by omega
        subst e
        have HR := Lib.hid (MixAt.done hmix (movV_lt HV.out))
        have HB2 := Lib.hid hb
        clear hmix hb hlt ha
        go_wp2
        go_ret
        exact ⟨rfl, HR.out, HB2.out⟩
end Go.Proofs.YtoakpmbiplmpbaaDoor.Bits
