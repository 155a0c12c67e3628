/-
  Contracts of the program's mixes of many numbers: Ints, Text, and a nil sum's Value. Not a statement of the seat.
-/
import Derived.Test.YtjipompbpnebjaaMix2
namespace Go.Proofs.Ytjipompbpnebjaa.Mx
open Go.ChangeShapes Go.WideShapes Go.ChangeAt Go.RowKit Base Lst
/-- What a call that tells a number, and may make memory, leaves. -/
def U64Post (r : Nat) (w : World) (e : Ending) (w' : World) : Prop := e = .returned (.int .u64 (r : Int)) ∧ Below w.heap.size w w'
theorem below_grown {B : Nat} {W w w' : World} {b : Nat} (h : Below B W w) (hB : B ≤ W.heap.size) (hg : w.grownBy w' (some b)) (hb : B ≤ b) : Below B W w' :=
  h.grown hg (Nat.le_trans hB h.size) (fun k hk => by cases hk; exact hb)
set_option maxHeartbeats 1000000 in
theorem intsP_any {xs : List Int} {v : Value} (w : World) (hl : Ints 0 w v xs) (hc : xs.length ≤ 1000000000) :
    Calls Try.prog 10 #[v] w (U64Post (intsN xs) w) := by
  have HL := Lib.hid hl
  have HR : Hid (valueN (stateN 0 xs) (0 + xs.length) = intsN xs) := Lib.hid (by rw [Nat.zero_add]; rfl)
  go_enter Try.func10, Try.ntmps10
  go_wp2_with fail
  refine (new_any _).mono ?_
  rintro e w1 ⟨rfl, hS, hB⟩
  have HA := Lib.hid (add_any w w.heap.size 0 0 w1 HL.out hB (.inl (Nat.le_refl _)) hS (by omega))
  have HB := Lib.hid hB
  clear hS hB
  go_wp2_with fail
  refine (HA.out).mono ?_
  rintro e w2 ⟨rfl, hS, hg⟩
  have HB2 := Lib.hid (below_grown HB.out (Nat.le_refl _) hg (Nat.le_refl _))
  have HV := Lib.hid (value_any _ _ _ w2 hS)
  rw [HR.out] at HV
  clear hS hg HB HA HR
  go_wp2_with fail
  refine (HV.out).mono ?_
  rintro e w3 ⟨rfl, n, rfl⟩
  go_wp2
  go_ret
  exact ⟨rfl, below_drewN HB2.out n⟩
theorem value_nil (w : World) : Calls Try.prog 16 #[.pointer none] w (U64Post (intsN []) w) := by
  have HI := Lib.hid (intsP_any (xs := []) (v := .slice none 0 0) w Ints.nil (by decide))
  generalize intsN [] = r at HI ⊢
  go_enter Try.func16, Try.ntmps16
  go_wp2_with fail
  refine (HI.out).mono ?_
  rintro e w1 ⟨rfl, hb⟩
  go_wp2
  go_ret
  exact ⟨rfl, hb⟩
set_option maxHeartbeats 1000000 in
theorem textP_any (s : ByteArray) (w : World) (hs : s.size ≤ 1000000) :
    Calls Try.prog 12 #[.string s] w (U64Post (intsN (bytesL s.data.toList)) w) := by
  have HS : Hid (∀ k (h : k < s.size), stateN 0 (bytesL (s.data.toList.take (k + 1))) = mixN (stateN 0 (bytesL (s.data.toList.take k)) ^^^ u64N ((s[k]).toNat : Int))) := Lib.hid fun k h => by
    rw [bytes_snoc s k h]
    unfold stateN
    rw [List.foldl_append, List.foldl_cons, List.foldl_nil]
  have HF : Hid (valueN (stateN 0 (bytesL (s.data.toList.take s.size))) s.size = intsN (bytesL s.data.toList)) := Lib.hid (by
    have h1 : s.data.toList.length = s.size := by simp
    have h2 : (bytesL s.data.toList).length = s.size := by unfold bytesL; rw [List.length_map, h1]
    unfold intsN
    rw [h2, ← h1, List.take_length])
  go_enter Try.func12, Try.ntmps12
  go_wp2_with fail
  refine (new_any _).mono ?_
  rintro e w1 ⟨rfl, hS, hB⟩
  have H0 : Hid (SumAt w1 w.heap.size (stateN 0 (bytesL (s.data.toList.take 0))) 0) := Lib.hid hS
  have HB0 := Lib.hid hB
  clear hS hB
  go_wp2_with fail
  go_loopw [4, 8] (fun _ s8 wr => ∃ k : Nat, s8 = .int .i64 (k : Int) ∧ k ≤ s.size ∧ Hid (SumAt wr w.heap.size (stateN 0 (bytesL (s.data.toList.take k))) k) ∧ Hid (Below w.heap.size w wr)) (fun _ s8 _ => s.size - (intOf s8).toNat)
  case atStart => exact ⟨0, rfl, Nat.zero_le _, H0, HB0⟩
  case round =>
    obtain ⟨k, rfl, hk, HA, HB⟩ := hrel
    by_cases hlt : k < s.size
    · have HP := Lib.hid (put_any _ _ _ ((s[k]).toNat : Int) wr HA.out (by omega))
      rw [← HS.out k hlt] at HP
      have hb2 : s[k].toNat < 256 := s[k].toNat_lt
      clear HA
      go_wp2_with fail
      refine (HP.out).mono ?_
      rintro e w2 ⟨rfl, h1, h2⟩
      have HA2 := Lib.hid h1
      have HB2 := Lib.hid (below_grown HB.out (Nat.le_refl _) h2 (Nat.le_refl _))
      clear h1 h2
      go_wp2_with fail
      go_roundw
      case rel => exact ⟨k + 1, by go_num, by omega, HA2, HB2⟩
      case measure => simp [intOf]; omega
    · have e : k = s.size := by omega
      subst e
      have HV := Lib.hid (value_any _ _ _ wr HA.out)
      rw [HF.out] at HV
      clear HA HS HF
      go_wp2_with fail
      refine (HV.out).mono ?_
      rintro e w3 ⟨rfl, n, rfl⟩
      go_wp2
      go_ret
      exact ⟨rfl, below_drewN HB.out n⟩
end Go.Proofs.Ytjipompbpnebjaa.Mx
