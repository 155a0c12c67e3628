/-
  Contracts of queues: New, Push, Pop. Not a statement of the seat.
-/
import Derived.Test.YtpmimngngehmlaaFq1
import Derived.Deep.RegionHeld3
import Derived.Deep.OwnRows
import Derived.Lib.ItoaNum
namespace Go.Proofs.Ytpmimngngehmlaa.F
open Go.ChangeShapes Go.WideShapes Go.ChangeAt Go.RowKit Base
/-- How long a ring is made. -/
theorem ring_len (r : Nat) (hr : r ≤ 65536) : r ≤ 2 ^ Lib.bitLen (max r 1 - 1) ∧ Lib.bitLen (max r 1 - 1) ≤ 16 := by
  unfold Lib.bitLen
  by_cases h0 : max r 1 - 1 = 0
  · rw [h0, Lib.bitLenAux_zero]; omega
  · obtain ⟨h1, h2, h3⟩ := Lib.bitLenAux_bounds 64 (max r 1 - 1) (by omega) h0
    refine ⟨by omega, ?_⟩
    have h4 : 2 ^ (Lib.bitLenAux 64 (max r 1 - 1) - 1) < 2 ^ 16 := by omega
    have := (Nat.pow_lt_pow_iff_right (by decide : 1 < 2)).1 h4
    omega
/-- What New leaves. -/
def NewQ (n : Int) (w : World) (e : Ending) (w' : World) : Prop := ∃ b g, e = .returned (.pointer (some ⟨b, 0, none⟩)) ∧ QAt w' b g (roomOf n) [] ∧ w.heap.size ≤ b ∧ w.heap.size ≤ g ∧ Below w.heap.size w w'
set_option maxHeartbeats 1000000 in
set_option maxRecDepth 100000 in
theorem fqnew (n : Int) (w : World) : Calls Try.prog 37 #[.int .i64 n] w (NewQ n w) := by
  have hr := roomOf_le n
  obtain ⟨hl1, hl2⟩ := ring_len (roomOf n) hr
  have HB := Lib.hid (fbounded n w)
  have KEY : ∀ k, roomOf n ≤ 2 ^ k → k ≤ 16 → NewQ n w (.returned (.pointer (some ⟨w.heap.size + 1, 0, none⟩))) ((w.alloc (.cells (madeCells #[.int .i64 0] (2 ^ k)) 3)).alloc (.cells #[.slice (some ⟨w.heap.size, 0, none⟩) (2 ^ k) (2 ^ k), .int .i64 0, .int .i64 0, .int .i64 ((roomOf n : Nat) : Int)] 129)) := fun k h1 h2 => by
    refine ⟨w.heap.size + 1, w.heap.size, rfl, ⟨hr, Nat.zero_le _, by omega, k, 2 ^ k, 0, _, h2, rfl, h1, Nat.two_pow_pos k, heap_alloc_at _ _ _ (by simp), heap_alloc_lt _ _ _ _ (heap_alloc_at _ _ _ rfl), Ring.nil (by simp [madeCells]) 0⟩, by omega, Nat.le_refl _, ((Below.refl _ _).alloc (Nat.le_refl _) _).alloc (by simp) _⟩
  have KEY2 := Lib.hid (KEY _ hl1 hl2)
  clear KEY
  obtain ⟨r, hr0⟩ : ∃ r, r = roomOf n := ⟨_, rfl⟩
  have hmk : ∀ wx k, k ≤ 16 → (Instr.makeSlice 61 (.int .i64 ((2 ^ k : Nat) : Int)) (.int .i64 ((2 ^ k : Nat) : Int))).run Try.prog wx = .ok (.slice (some ⟨wx.heap.size, 0, none⟩) (2 ^ k) (2 ^ k)) (wx.alloc (.cells (madeCells #[.int .i64 0] (2 ^ k)) 3)) := fun wx k hk => by
    have hp : 2 ^ k ≤ 2 ^ 16 := Nat.pow_le_pow_right (by omega) hk
    exact run_make_row' (P := Try.prog) 61 3 (.int .i64 0) 8 Try.underlying61 Lst.int_info rfl .i64 .i64 (2 ^ k) (by omega) (by omega) wx
  generalize NewQ n w = Post at KEY2 ⊢
  rw [← hr0] at HB hl2 KEY2 hr
  clear hl1
  have HLN : ∀ wx, Calls Try.prog 94 #[.int .u64 ((max r 1 - 1 : Nat) : Int)] wx fun e w' => e = .returned (.int .i64 (Lib.bitLen (max r 1 - 1))) ∧ w' = wx := fun wx => by
    have := Try.bits_Len ((max r 1 - 1 : Nat) : Int) wx (by omega) (by omega)
    rwa [Int.toNat_natCast] at this
  have HL := Lib.hid HLN
  have hm := hmk
  generalize Lib.bitLen (max r 1 - 1) = k at HL KEY2 hl2
  have hw1 : max (r : Int) 1 - 1 = ((max r 1 - 1 : Nat) : Int) := by omega
  have hp : 2 ^ k ≤ 2 ^ 16 := Nat.pow_le_pow_right (by omega) hl2
  have hm1 := fun wx => hm wx k hl2
  have hw2 : ((2 : Int) ^ k) = ((2 ^ k : Nat) : Int) := by rw [Int.natCast_pow]; rfl
  clear HLN hmk hr0 hm
  generalize hN : (2 ^ k : Nat) = N at KEY2 hm1 hw2 hp
  have hw3 : wrap64 ((2 : Int) ^ k) = (N : Int) := by rw [hw2]; exact IntWalk.wrap64_in _ ⟨by omega, by omega⟩
  clear hN hw2
  go_enter Try.func37, Try.ntmps37
  go_wp2_with fail
  refine HB.out.mono ?_
  rintro e w1 ⟨rfl, rfl⟩
  go_wp2_with fail
  refine (HL.out _).mono ?_
  rintro e w1 ⟨rfl, rfl⟩
  go_wp2
  exact KEY2.out
end Go.Proofs.Ytpmimngngehmlaa.F
