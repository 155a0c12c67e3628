/-
  Contracts of slices.Index, Contains, Equal, Clone at ints, and of order's at, Next, Prev, Right, Perm, Same, With. Not a statement of the seat.
-/
import Derived.Test.YtphagkpnfbdncaaOrMath
import Derived.Test.YtphagkpnfbdncaaMp
import Derived.Test.YtphagkpnfbdncaaLstSame
import Derived.Test.YtphagkpnfbdncaaLstAp
namespace Go.Proofs.Ytphagkpnfbdncaa.Or
open Go.ChangeShapes Go.WideShapes Go.ChangeAt Go.RowKit Base Lst
set_option maxHeartbeats 1000000 in
theorem index_any {base : Nat} {v : Value} {xs : List Int} (i : Int) (w : World) (h : Ints base w v xs) : Calls Try.prog 27 #[v, .int .i64 i] w fun e w' => e = .returned (.int .i64 (Om.idx xs i)) ∧ w = w' := by
  obtain ⟨p, c, rfl, hl, hc⟩ := h.open_
  have HC := Lib.hid hc
  have HY : Hid (∀ k, k < xs.length → xs.getD k 0 = i → (∀ j, j < k → xs.getD j 0 ≠ i) → Om.idx xs i = k) := Lib.hid fun k hk e hn => Om.idx_hit k hk e hn
  have HN : Hid ((∀ j, j < xs.length → xs.getD j 0 ≠ i) → Om.idx xs i = -1) := Lib.hid fun h => Om.idx_miss h
  clear hc h
  generalize Om.idx xs i = r at HY HN ⊢
  go_enter Try.func27, Try.ntmps27
  go_wp2_with fail
  go_loopw [8] (fun s8 wr => ∃ k : Nat, s8 = .int .i64 k ∧ k ≤ xs.length ∧ wr = w ∧ Hid (∀ j, j < k → xs.getD j 0 ≠ i)) (fun s8 _ => xs.length - (intOf s8).toNat)
  case atStart => exact ⟨0, rfl, Nat.zero_le _, rfl, Lib.hid fun j hj => absurd hj (by omega)⟩
  case round =>
    obtain ⟨k, rfl, hk, rfl, HK⟩ := hrel
    by_cases hlt : k < xs.length
    · obtain ⟨g', o', rfl, _, _, hcell⟩ := HC.out k hlt
      have HYK := Lib.hid (HY.out k hlt)
      have HKK : Hid (xs.getD k 0 ≠ i → ∀ j, j < k + 1 → xs.getD j 0 ≠ i) := Lib.hid fun h j hj => by
        by_cases e : j = k
        · rw [e]; exact h
        · exact HK.out j (by omega)
      generalize xs.getD k 0 = x at hcell HYK HKK
      by_cases hx : x = i
      · have HR := Lib.hid (HYK.out hx HK.out)
        subst hx
        clear HKK HK HYK
        go_wp2
        go_ret
        exact ⟨ret_int HR.out.symm, rfl⟩
      · have HK2 := Lib.hid (HKK.out hx)
        have hd : (i == x) = false := by rw [beq_eq_false_iff_ne]; exact fun e => hx e.symm
        clear HKK HK HYK
        go_wp2_with fail
        go_roundw
        case rel => exact ⟨k + 1, by go_num, by omega, trivial, HK2⟩
        case measure => simp [intOf]; omega
    · have HR := Lib.hid (HN.out (fun j hj => HK.out j (by omega)))
      clear HK HY HN
      go_wp2
      go_ret
      exact ⟨ret_int HR.out.symm, rfl⟩
theorem contains_any {base : Nat} {v : Value} {xs : List Int} (i : Int) (w : World) (h : Ints base w v xs) : Calls Try.prog 37 #[v, .int .i64 i] w fun e w' => e = .returned (.bool (decide (i ∈ xs))) ∧ w = w' := by
  have HI := Lib.hid (index_any i w h)
  have hb := Om.idx_bd xs i
  have HB : Hid (decide (i ∈ xs) = decide (0 ≤ Om.idx xs i)) := Lib.hid (by
    rw [decide_eq_decide]
    have := @Om.idx_neg xs i
    constructor
    · intro hm; exact Int.not_lt.1 fun hn => this.1 hn hm
    · intro hm; exact Classical.byContradiction fun hn => by have := this.2 hn; omega)
  rw [HB.out]
  clear HB h
  generalize Om.idx xs i = r at HI hb ⊢
  go_enter Try.func37, Try.ntmps37
  go_wp2_with (go_at_call 27; refine HI.out.mono ?_; rintro e w' ⟨rfl, rfl⟩)
  go_ret
  exact ⟨rfl, rfl⟩
set_option maxHeartbeats 1000000 in
theorem at_any {base : Nat} {v : Value} {xs : List Int} (p : Int) (w : World) (h : Ints base w v xs) : Calls Try.prog 26 #[v, .int .i64 p] w fun e w' => e = .returned (.tuple #[.int .i64 (Om.atV xs p), .bool (Om.atB xs p)]) ∧ w = w' := by
  obtain ⟨q, c, rfl, hl, hc⟩ := h.open_
  by_cases h0 : p < 0
  · rw [Om.atV_out (.inl h0), Om.atB_out (.inl h0)]
    clear hc h
    go_enter Try.func26, Try.ntmps26
    go_wp2
    go_ret2
    exact ⟨rfl, rfl⟩
  · obtain ⟨k, rfl⟩ : ∃ k : Nat, p = (k : Int) := ⟨p.toNat, by omega⟩
    by_cases hk : k < xs.length
    · obtain ⟨g', o', rfl, _, _, hcell⟩ := hc k hk
      rw [Om.atV_in k hk, Om.atB_in k hk]
      generalize xs.getD k 0 = x at hcell
      have hge : decide (xs.length ≤ k) = false := by rw [decide_eq_false]; omega
      have hge' : decide ((xs.length : Int) ≤ (k : Int)) = false := by rw [decide_eq_false]; omega
      clear hc h h0
      go_enter Try.func26, Try.ntmps26
      go_wp2
      go_ret2
      exact ⟨rfl, rfl⟩
    · rw [Om.atV_out (.inr (by omega)), Om.atB_out (.inr (by omega))]
      have hge : decide (xs.length ≤ k) = true := by rw [decide_eq_true]; omega
      have hge' : decide ((xs.length : Int) ≤ (k : Int)) = true := by rw [decide_eq_true]; omega
      clear hc h h0
      go_enter Try.func26, Try.ntmps26
      go_wp2
      go_ret2
      exact ⟨rfl, rfl⟩
end Go.Proofs.Ytphagkpnfbdncaa.Or
