/-
  The walk of the statement on neighbours in orders. Not a statement of the seat.
-/
import Derived.Test.YtphagkpnfbdncaaOrTellsW
namespace Go.Proofs.Ytphagkpnfbdncaa.Or
open Go.ChangeShapes Go.WideShapes Go.ChangeAt Go.RowKit Base Lst
set_option maxRecDepth 100000 in
set_option maxHeartbeats 4000000 in
theorem next_walk (v : Value) (xs : List Int) (w : World) (hv : SL w v xs) (hbx : Bd xs) :
    Calls Try.prog 5 #[v] w (LivesP w) := by
  have HE : Hid (∀ w', Aft w w' → LivesP w (.returned (.bool true)) w') := Lib.hid fun w' h => ⟨rfl, h⟩
  have HL : Hid (∀ w, Calls Try.prog 6 #[] w fun e w' => e = .returned (.bool true) ∧ Aft w w') := Lib.hid fun w => lives w
  have HV := Lib.hid hv
  have HBX := Lib.hid hbx
  obtain ⟨⟨_, p, c, rfl, _⟩, _⟩ := hv
  obtain ⟨p', c', hv', hml, hc⟩ := HV.out.1.1.open_
  injection hv' with e1 _ e3
  subst e1 e3
  have HC := Lib.hid hc
  clear hbx hc
  generalize LivesP w = Post at HE ⊢
  by_cases h1 : xs.length ≤ 100
  · have h1' : ¬ (100 : Int) < (xs.length : Int) := by omega
    cases hr : Om.rightB xs with
    | false =>
      have HR := Lib.hid hr
      clear hr
      go_enter Try.func5, Try.ntmps5
      go_wp2_with (first
        | (go_at_call 6; refine (HL.out _).mono ?_; rintro e w1 ⟨rfl, h2⟩; have H1 := Lib.hid h2; clear h2)
        | (go_at_call 17; ((with_reducible refine (l_right HV.out (by omega) H1.out HBX.out false HR.out).mono ?_); rintro e w2 ⟨rfl, h2⟩; have H2 := Lib.hid (H1.out.trans h2); clear h2)))
      exact HE.out _ H2.out
    | true =>
      have HR := Lib.hid hr
      have HRT : Hid (Om.Rt xs) := Lib.hid (of_decide_eq_true hr)
      clear hr
      go_enter Try.func5, Try.ntmps5
      go_wp2_with (first
        | (go_at_call 6; refine (HL.out _).mono ?_; rintro e w1 ⟨rfl, h2⟩; have H1 := Lib.hid h2; clear h2)
        | (go_at_call 17; ((with_reducible refine (l_right HV.out (by omega) H1.out HBX.out true HR.out).mono ?_); rintro e w2 ⟨rfl, h2⟩; have H2 := Lib.hid (H1.out.trans h2); clear h2)))
      obtain ⟨wA, hwA⟩ : ∃ wA, wA = w2 := ⟨_, rfl⟩
      subst hwA
      go_loopw [3, 24] (fun s3 s24 wr => ∃ (k : Nat) (a : Int), s24 = .int .i64 k ∧ s3 = .int .i64 a ∧ k ≤ xs.length ∧ wr = wA ∧ Hid (a = Om.ahead xs k)) (fun _ s24 _ => xs.length - (intOf s24).toNat)
      case atStart => exact ⟨0, 0, rfl, rfl, Nat.zero_le _, rfl, Lib.hid (by simp [Om.ahead])⟩
      case round =>
        obtain ⟨k, a, rfl, rfl, hk, rfl, HA⟩ := hrel
        by_cases hlt : k < xs.length
        · obtain ⟨g', o', rfl, _, hg', hcell0⟩ := HC.out k hlt
          have hcell := (H2.out.cell (p := ⟨g', o' + k, none⟩) hg').trans hcell0
          have hin := Om.next_in HRT.out hlt
          have hpr := Om.prev_in HRT.out hlt
          rw [← HA.out] at hin hpr
          have HS : Hid (xs.getD k 0 = Om.ahead xs (k + 1)) := Lib.hid (Om.ahead_succ xs k).symm
          have HIN := Lib.hid hin
          have HPR := Lib.hid hpr
          clear hcell0 hin hpr
          generalize xs.getD k 0 = x at hcell HIN HPR HS
          by_cases ha : a = 0
          · have hd : (a != 0) = false := by rw [bne_eq_false_iff_eq]; exact ha
            have HP2 : Hid (Om.prevB xs x = false) := Lib.hid (by rw [HPR.out.2, hd])
            subst ha
            clear HA
            go_wp2_with (first
              | (go_at_call 7; ((with_reducible refine (l_next HV.out (by omega) H2.out 0 x true HIN.out.1 HIN.out.2).mono ?_); rintro e w' ⟨rfl, rfl⟩))
              | (go_at_call 9; ((with_reducible refine (l_prev HV.out (by omega) H2.out x 0 false HPR.out.1 HP2.out).mono ?_); rintro e w' ⟨rfl, rfl⟩)))
            go_roundw
            case rel => exact ⟨k + 1, x, by go_num, rfl, by omega, trivial, HS⟩
            case measure => simp [intOf]; omega
          · have hd : (a != 0) = true := by rw [bne_iff_ne]; exact ha
            have HP2 : Hid (Om.prevB xs x = true) := Lib.hid (by rw [HPR.out.2, hd])
            clear HA ha
            go_wp2_with (first
              | (go_at_call 7; ((with_reducible refine (l_next HV.out (by omega) H2.out a x true HIN.out.1 HIN.out.2).mono ?_); rintro e w' ⟨rfl, rfl⟩))
              | (go_at_call 9; ((with_reducible refine (l_prev HV.out (by omega) H2.out x a true HPR.out.1 HP2.out).mono ?_); rintro e w' ⟨rfl, rfl⟩)))
            go_roundw
            case rel => exact ⟨k + 1, x, by go_num, rfl, by omega, trivial, HS⟩
            case measure => simp [intOf]; omega
        · have hend := Om.next_end HRT.out
          have e : k = xs.length := by omega
          rw [← e, ← HA.out] at hend
          have HEND := Lib.hid hend
          clear hend HA e
          go_wp2_with (go_at_call 7; ((with_reducible refine (l_next HV.out (by omega) H2.out a 0 false HEND.out.1 HEND.out.2).mono ?_); rintro e w' ⟨rfl, rfl⟩))
          exact HE.out _ H2.out
  · have h1' : (100 : Int) < (xs.length : Int) := by omega
    go_enter Try.func5, Try.ntmps5
    go_wp2_with (go_at_call 6; refine (HL.out _).mono ?_; rintro e w1 ⟨rfl, h2⟩; have H1 := Lib.hid h2; clear h2)
    exact HE.out _ H1.out
end Go.Proofs.Ytphagkpnfbdncaa.Or
