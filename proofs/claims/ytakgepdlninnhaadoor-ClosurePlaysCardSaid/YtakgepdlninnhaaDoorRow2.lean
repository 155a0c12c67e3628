/-
  Contracts: math/bits.OnesCount64 tells how many bits of a word are set; Count, how many places of a row. Not a statement of the seat.
-/
import Derived.Test.YtakgepdlninnhaaDoorRow1
import Derived.Test.YtakgepdlninnhaaDoorHead15
import Derived.Laws.Bits128
import Derived.LoopTactic
namespace Go.Proofs.YtakgepdlninnhaaDoor.Bits
open Go.ChangeShapes Go.WideShapes Go.ChangeAt Go.RowKit Base
theorem u64_and_ge (a : Int) (m : Nat) (h0 : 0 ≤ a) (h1 : a < 18446744073709551616) (hm : m < 18446744073709551616) : bits .and .u64 a (m : Int) = ((a.toNat &&& m : Nat) : Int) := by
  rw [u64_and a m h0 h1 (by omega) (by omega), Int.toNat_natCast]
set_option maxHeartbeats 2000000 in
theorem onesCount_any (x : Nat) (hx : x < 18446744073709551616) (w : World) : Calls Tryd.prog 63 #[.int .u64 (x : Int)] w fun e w' => e = .returned (.int .i64 (pc 64 x : Nat)) ∧ w = w' := by
  obtain ⟨a1, ha1⟩ : ∃ a1, a1 = x / 2 &&& 6148914691236517205 := ⟨_, rfl⟩
  obtain ⟨a2, ha2⟩ : ∃ a2, a2 = x &&& 6148914691236517205 := ⟨_, rfl⟩
  obtain ⟨a, ha⟩ : ∃ a, a = a1 + a2 := ⟨_, rfl⟩
  obtain ⟨b1, hb1⟩ : ∃ b1, b1 = a / 4 &&& 3689348814741910323 := ⟨_, rfl⟩
  obtain ⟨b2, hb2⟩ : ∃ b2, b2 = a &&& 3689348814741910323 := ⟨_, rfl⟩
  obtain ⟨b, hb⟩ : ∃ b, b = b1 + b2 := ⟨_, rfl⟩
  obtain ⟨c, hc⟩ : ∃ c, c = (b / 16 + b) &&& 1085102592571150095 := ⟨_, rfl⟩
  obtain ⟨d, hd⟩ : ∃ d, d = c + c / 256 := ⟨_, rfl⟩
  obtain ⟨e, he⟩ : ∃ e, e = d + d / 65536 := ⟨_, rfl⟩
  have HP := Lib.hid (pop_steps x a b c d e (by rw [ha, ha1, ha2]) (by rw [hb, hb1, hb2]) hc hd he)
  have la1 : a1 ≤ 6148914691236517205 := by rw [ha1]; exact Nat.and_le_right
  have la2 : a2 ≤ 6148914691236517205 := by rw [ha2]; exact Nat.and_le_right
  have lb1 : b1 ≤ 3689348814741910323 := by rw [hb1]; exact Nat.and_le_right
  have lb2 : b2 ≤ 3689348814741910323 := by rw [hb2]; exact Nat.and_le_right
  have lc : c ≤ 1085102592571150095 := by rw [hc]; exact Nat.and_le_right
  have k1 : bits .and .u64 ((x : Int) / 2) 6148914691236517205 = a1 := by
    have h := u64_and_nat (x / 2) 6148914691236517205 (by omega) (by omega)
    rw [ha1, ← h]; rfl
  have k2 : bits .and .u64 (x : Int) 6148914691236517205 = a2 := by
    have h := u64_and_nat x 6148914691236517205 (by omega) (by omega)
    rw [ha2, ← h]; rfl
  have k3 : bits .and .u64 (((a1 : Int) + a2) / 4) 3689348814741910323 = b1 := by
    have h := u64_and_nat (a / 4) 3689348814741910323 (by omega) (by omega)
    rw [hb1, ← h, ha]; rfl
  have k4 : bits .and .u64 ((a1 : Int) + a2) 3689348814741910323 = b2 := by
    have h := u64_and_nat a 3689348814741910323 (by omega) (by omega)
    rw [hb2, ← h, ha]; rfl
  have k5 : bits .and .u64 (((b1 : Int) + b2) / 16 + (b1 + b2)) 1085102592571150095 = c := by
    have h := u64_and_nat (b / 16 + b) 1085102592571150095 (by omega) (by omega)
    rw [hc, ← h, hb]; rfl
  have k6 : bits .and .i64 ((((c : Int) + c / 256) + ((c : Int) + c / 256) / 65536) + (((c : Int) + c / 256) + ((c : Int) + c / 256) / 65536) / 4294967296) 127 = (pc 64 x : Nat) := by
    rw [i64_and127, ← HP.out]
    have e1 : ((d : Nat) : Int) = c + c / 256 := by omega
    have e2 : ((e : Nat) : Int) = d + d / 65536 := by omega
    rw [← e1, ← e2]
    omega
  clear HP ha1 ha2 ha hb1 hb2 hb hc hd he
  generalize pc 64 x = r at k6 ⊢
  go_enter Tryd.func63, Tryd.ntmps63
  go_wp2
  go_ret
  exact ⟨rfl, rfl⟩
/-- A sum over the first k words. -/
def wsum (V : Nat) : Nat → Nat
  | 0 => 0
  | k + 1 => wsum V k + pc 64 (wrd V k)
theorem wsum_succ (V k : Nat) : wsum V (k + 1) = wsum V k + pc 64 (wrd V k) := by rw [wsum]
theorem pc_mod (m x : Nat) : pc m (x % 2 ^ m) = pc m x := by
  have h := pc_add m 0 x
  have h0 : pc 0 (x / 2 ^ m) = 0 := pc_nil _
  rw [h0, Nat.add_zero, Nat.add_zero] at h
  exact h.symm
theorem wsum_pc (V : Nat) (k : Nat) : wsum V k = pc (64 * k) V := by
  induction k with
  | zero => rw [pc_nil]; rfl
  | succ k ih =>
    rw [wsum_succ, ih, show 64 * (k + 1) = 64 * k + 64 by omega, pc_add, pc_mod]
    unfold wrd
    rw [Nat.shiftRight_eq_div_pow, pc_mod]
theorem pc_high {V n : Nat} (hV : V < 2 ^ n) (m : Nat) : pc (n + m) V = pc n V := by
  rw [pc_add, Nat.div_eq_of_lt hV, pc_zero, Nat.mod_eq_of_lt hV, Nat.add_zero]
theorem wsum_all {V n : Nat} (hV : V < 2 ^ n) : wsum V ((n + 63) / 64) = pc n V := by
  rw [wsum_pc, show 64 * ((n + 63) / 64) = n + (64 * ((n + 63) / 64) - n) by omega, pc_high hV]
set_option maxHeartbeats 200000 in
theorem count_any (b g n V : Nat) (w : World) (h : RowAt w b g n V) : Calls Tryd.prog 48 #[.pointer (some ⟨b, 0, none⟩)] w fun e w' => e = .returned (.int .i64 (pc n V : Nat)) ∧ w = w' := by
  obtain ⟨h0, h1⟩ := h.head
  have hn := h.2.2.1
  have HW : Hid (∀ k, k < (n + 63) / 64 → w.cell? ⟨g, k, none⟩ = some (.int .u64 (wrd V k : Nat))) := Lib.hid fun k hk => (h.word hk).1
  have HS := Lib.hid (wsum_all h.2.2.2)
  generalize pc n V = r at HS ⊢
  clear h
  go_enter Tryd.func48, Tryd.ntmps48
  go_wp2
  go_loop [3, 13] (fun s3 s13 => ∃ k : Nat, k ≤ (n + 63) / 64 ∧ s13 = .int .i64 k ∧ s3 = .int .i64 (wsum V k : Nat)) (fun _ i => (n + 63) / 64 - (intOf i).toNat)
  case atStart => exact ⟨0, Nat.zero_le _, rfl, rfl⟩
  case round =>
    obtain ⟨k, hk, rfl, rfl⟩ := hrel
    by_cases hlt : k < (n + 63) / 64
    · have hc := HW.out k hlt
      have HX := Lib.hid (wrd_lt V k)
      have HT := Lib.hid (wsum_succ V k)
      generalize wrd V k = x0 at hc HX HT
      go_wp2_with fail
      refine (onesCount_any x0 HX.out _).mono ?_
      rintro e wx ⟨rfl, rfl⟩
      have hs : wsum V k ≤ 64 * k := by rw [wsum_pc]; exact pc_le _ _
      have hp : pc 64 x0 ≤ 64 := pc_le _ _
      go_wp2_with fail
      go_round
      case rel => exact ⟨k + 1, by omega, by go_num, by rw [HT.out]; go_num⟩
      case measure => simp [intOf]; omega
    · have e : k = (n + 63) / 64 := by omega
      have HK := Lib.hid e
      clear e
      go_wp2
      go_ret
      exact ⟨ret_int (by rw [HK.out, HS.out]), rfl⟩
end Go.Proofs.YtakgepdlninnhaaDoor.Bits
