/-
  Contracts of the program's numbers: isText, Read. Not a statement of the seat.
-/
import Derived.Test.YtaogofjnpnheeaaGreatDoorNuBack
namespace Go.Proofs.YtaogofjnpnheeaaGreatDoor.Nu
open Go.ChangeShapes Go.WideShapes Go.ChangeAt Go.RowKit Go.Lib Lst
/-- Is a list of bytes the text of a number that is not below 0? -/
def textB (l : List UInt8) : Bool := l.all digB && !l.isEmpty && !(decide (1 < l.length) && decide (l.head? = some 48))
theorem readL_no {l : List UInt8} (h : textB l = false) : readL l = (0, 10) := by
  unfold readL
  by_cases h1 : l = [] ∨ (1 < l.length ∧ l.head? = some 48)
  · rw [if_pos h1]
  · rw [if_neg h1]
    by_cases h2 : l.all digB = true
    · exfalso
      unfold textB at h
      rw [h2] at h
      have h3 : l ≠ [] := fun e => h1 (.inl e)
      have h4 : (decide (1 < l.length) && decide (l.head? = some 48)) = false := by
        rw [Bool.eq_false_iff]; intro h5; simp at h5; exact h1 (.inr h5)
      rw [h4] at h
      cases l
      · exact h3 rfl
      · simp at h
    · rw [if_neg h2]
theorem readL_yes {l : List UInt8} (h : textB l = true) : readL l = if 2147483647 < P 0 l then (0, 1) else (((P 0 l : Nat) : Int), 0) := by
  unfold textB at h
  simp only [Bool.and_eq_true] at h
  obtain ⟨⟨h1, h2⟩, h3⟩ := h
  unfold readL
  rw [if_neg (fun hh => by
    rcases hh with rfl | ⟨a, b⟩
    · simp at h2
    · simp [a, b] at h3), if_pos h1]
  have hc := cap_fold l 0
  by_cases hP : P 0 l ≤ 2147483647
  · rw [hc.1 hP, if_neg (by omega)]
  · rw [if_pos (hc.2 (by omega)), if_pos (by omega)]
set_option maxHeartbeats 2000000 in
theorem isText_any (s : ByteArray) (w : World) (hs : s.size ≤ 9223372036854775807) :
    Calls Tryz.prog 46 #[.string s] w fun e w' => e = .returned (.bool (textB s.data.toList)) ∧ w = w' := by
  have hl : s.data.toList.length = s.size := by simp
  have HN : Hid (∀ k, ∀ h : k < s.size, digB s[k] = false → textB s.data.toList = false) := Lib.hid fun k h hd => by
    unfold textB
    have : s.data.toList.all digB = false := by
      rw [List.all_eq_false]
      exact ⟨s[k], by
        have e : s[k] = s.data.toList[k]'(by rw [hl]; exact h) := rfl
        rw [e]; exact List.getElem_mem _, by rw [hd]; decide⟩
    rw [this]; rfl
  have HY : Hid ((∀ k, ∀ h : k < s.size, digB s[k] = true) → textB s.data.toList = (!s.data.toList.isEmpty && !(decide (1 < s.data.toList.length) && decide (s.data.toList.head? = some 48)))) := Lib.hid fun hall => by
    unfold textB
    have : s.data.toList.all digB = true := List.all_eq_true.2 fun c hc => by
      obtain ⟨j, hj, e⟩ := List.mem_iff_getElem.1 hc
      rw [← e]; exact hall j (by rw [← hl]; exact hj)
    rw [this]; rfl
  clear hl
  generalize textB s.data.toList = r at HN HY ⊢
  go_enter Tryz.func46, Tryz.ntmps46
  go_wp2
  go_loop [3, 6] (fun _ s6 => ∃ k : Nat, s6 = .int .i64 k ∧ k ≤ s.size ∧ Hid (∀ j, j < k → ∀ h : j < s.size, digB s[j] = true)) (fun _ s6 => s.size - (intOf s6).toNat)
  case atStart => exact ⟨0, rfl, Nat.zero_le _, Lib.hid fun j hj => absurd hj (by omega)⟩
  case round =>
    obtain ⟨k, rfl, hk, HD⟩ := hrel
    by_cases hlt : k < s.size
    · have hb2 : s[k].toNat < 256 := s[k].toNat_lt
      have HDK : Hid (digB s[k] = true → ∀ j, j < k + 1 → ∀ h : j < s.size, digB s[j] = true) := Lib.hid fun h j hj hh => by
        by_cases e : j = k
        · subst e; exact h
        · exact HD.out j (by omega) hh
      have HRK := Lib.hid (HN.out k hlt)
      by_cases hlo : (s[k].toNat : Int) < 48
      · have hR := HRK.out (by unfold digB; rw [decide_eq_false (by omega)])
        subst hR
        clear HN HY HRK HDK
        go_wp2
        go_ret
        exact ⟨rfl, rfl⟩
      · by_cases hhi : (57 : Int) < (s[k].toNat : Int)
        · have hR := HRK.out (by unfold digB; rw [decide_eq_false (by omega)])
          subst hR
          clear HN HY HRK HDK
          go_wp2
          go_ret
          exact ⟨rfl, rfl⟩
        · have HD2 := Lib.hid (HDK.out (by unfold digB; rw [decide_eq_true (by omega)]))
          clear HDK HRK HD
          go_wp2
          go_round
          case rel => exact ⟨k + 1, by go_num, by omega, HD2⟩
          case measure => simp [intOf]; omega
    · have e : k = s.size := by omega
      subst e
      have HR := Lib.hid (HY.out (fun j hj => HD.out j hj hj))
      clear HN HY HD
      have htl : s.toList = s.data.toList := ByteArray.toList_eq s
      by_cases h48 : s.toList = [48]
      · have hr : r = true := by rw [HR.out, ← htl, h48]; decide
        subst hr
        clear HR htl
        go_wp2
        go_ret
        exact ⟨rfl, rfl⟩
      by_cases h0 : s.toList = []
      · have hr : r = false := by rw [HR.out, ← htl, h0]; decide
        subst hr
        clear HR htl
        go_wp2
        go_ret
        exact ⟨rfl, rfl⟩
      have hpos : 0 < s.size := by
        rcases Nat.eq_zero_or_pos s.size with h | h
        · exact absurd (List.length_eq_zero_iff.1 (by rw [htl]; simpa using h)) h0
        · exact h
      have e48 : (s.toList == [48]) = false := by rw [beq_eq_false_iff_ne]; exact h48
      have h0' : s.toList.isEmpty = false := by
        cases h : s.toList
        · exact absurd h h0
        · rfl
      have hx0 : s.data.toList.head? = some s[0] := by
        rw [List.head?_eq_getElem?, List.getElem?_eq_getElem (by simpa using hpos)]
        rfl
      have hb2 : s[0].toNat < 256 := s[0].toNat_lt
      have hlen : s.data.toList.length = s.size := by simp
      by_cases h1 : s[0] = 48
      · have hr : r = false := by
          have h2 : 1 < s.data.toList.length := by
            rcases Nat.lt_or_ge 1 s.data.toList.length with h | h
            · exact h
            · exfalso
              have h3 : s.data.toList.length = 1 := by omega
              obtain ⟨c, hc⟩ := List.length_eq_one_iff.1 h3
              rw [hc] at hx0
              have := Option.some.inj hx0
              rw [h1] at this
              exact h48 (by rw [htl, hc, this])
          rw [HR.out, hx0, h1, decide_eq_true h2]
          simp
        have he : ((s[0].toNat : Int) != 48) = false := by rw [h1]; decide
        subst hr
        clear HR htl hx0 h1 hlen
        go_wp2
        go_ret
        exact ⟨rfl, rfl⟩
      · have hr : r = true := by
          rw [HR.out, hx0, ← htl, h0']
          have : ¬ some s[0] = some (48 : UInt8) := fun e => h1 (Option.some.inj e)
          rw [decide_eq_false this]
          simp
        have he : ((s[0].toNat : Int) != 48) = true := by
          rw [bne_iff_ne]
          intro e
          exact h1 (UInt8.toNat_inj.1 (by rw [show (48 : UInt8).toNat = 48 from rfl]; omega))
        subst hr
        clear HR htl hx0 h1 hlen
        go_wp2
        go_ret
        exact ⟨rfl, rfl⟩
theorem digVal {c : UInt8} (h : digB c = true) : 48 ≤ c.toNat ∧ c.toNat ≤ 57 := of_decide_eq_true h
theorem P_take (s : ByteArray) (k : Nat) (h : k < s.size) : P 0 (s.data.toList.take (k + 1)) = 10 * P 0 (s.data.toList.take k) + (s[k].toNat - 48) := by
  rw [take_snoc s k h, P_snoc]
theorem P_mono (l : List UInt8) (k : Nat) : P 0 (l.take k) ≤ P 0 l := by
  have h := P_ge (l.drop k) (P 0 (l.take k))
  have e : P (P 0 (l.take k)) (l.drop k) = P 0 l := by
    unfold P
    rw [← List.foldl_append, List.take_append_drop]
  omega
set_option maxHeartbeats 2000000 in
theorem read_any (s : ByteArray) (w : World) (hs : s.size ≤ 9223372036854775807) :
    Calls Tryz.prog 34 #[.string s] w fun e w' => e = .returned (.tuple #[.int .i64 (readL s.data.toList).1, .int .i64 (readL s.data.toList).2]) ∧ w = w' := by
  have HT := Lib.hid (isText_any s w hs)
  cases hT : textB s.data.toList
  · rw [readL_no hT]
    rw [hT] at HT
    go_enter Tryz.func34, Tryz.ntmps34
    go_wp2_with fail
    refine (HT.out).mono ?_
    rintro e w1 ⟨rfl, rfl⟩
    go_wp2
    go_ret2
    exact ⟨rfl, rfl⟩
  · rw [readL_yes hT]
    rw [hT] at HT
    have hl : s.data.toList.length = s.size := by simp
    have HD : Hid (∀ k, ∀ h : k < s.size, digB s[k] = true) := Lib.hid fun k h => by
      unfold textB at hT
      simp only [Bool.and_eq_true] at hT
      have e : s[k] = s.data.toList[k]'(by rw [hl]; exact h) := rfl
      rw [e]
      exact List.all_eq_true.1 hT.1.1 _ (List.getElem_mem _)
    have HS : Hid (∀ k (h : k < s.size), P 0 (s.data.toList.take (k + 1)) = 10 * P 0 (s.data.toList.take k) + (s[k].toNat - 48)) := Lib.hid (P_take s)
    have HM : Hid (∀ k, P 0 (s.data.toList.take k) ≤ P 0 s.data.toList) := Lib.hid (P_mono _)
    have HF : Hid (P 0 (s.data.toList.take s.size) = P 0 s.data.toList) := Lib.hid (by rw [← hl, List.take_length])
    clear hT hl
    generalize P 0 s.data.toList = r at HM HF ⊢
    have HR1 : Hid (2147483647 < r → (if 2147483647 < r then ((0 : Int), (1 : Int)) else ((r : Int), 0)) = (0, 1)) := Lib.hid fun h => if_pos h
    have HR2 : Hid (r ≤ 2147483647 → (if 2147483647 < r then ((0 : Int), (1 : Int)) else ((r : Int), 0)) = ((r : Int), 0)) := Lib.hid fun h => if_neg (by omega)
    generalize (if 2147483647 < r then ((0 : Int), (1 : Int)) else ((r : Int), 0)) = R at HR1 HR2 ⊢
    go_enter Tryz.func34, Tryz.ntmps34
    go_wp2_with fail
    refine (HT.out).mono ?_
    rintro e w1 ⟨rfl, rfl⟩
    go_wp2_with fail
    go_loop [4, 5, 11] (fun s4 _ s11 => ∃ k m : Nat, s11 = .int .i64 k ∧ k ≤ s.size ∧ s4 = .int .i64 (m : Int) ∧ m ≤ 2147483647 ∧ Hid (m = P 0 (s.data.toList.take k))) (fun _ _ s11 => s.size - (intOf s11).toNat)
    case atStart => exact ⟨0, 0, rfl, Nat.zero_le _, rfl, by omega, Lib.hid rfl⟩
    case round =>
      obtain ⟨k, m, rfl, hk, rfl, hm, HP⟩ := hrel
      by_cases hlt : k < s.size
      · have hd := digVal (HD.out k hlt)
        have hd1 := hd.1
        have hd2 := hd.2
        clear hd
        have he := HS.out k hlt
        rw [← HP.out] at he
        have hv : IntKind.u8.wrap ((s[k].toNat : Int) - 48) = (s[k].toNat : Int) - 48 := by rw [IntKind.wrap_u8]; omega
        have hle := HM.out (k + 1)
        rw [he] at hle
        have HE := Lib.hid he
        clear he
        by_cases hbig : 2147483647 < 10 * m + (s[k].toNat - 48)
        · have hr : (2147483647 : Int) < (m : Int) * 10 + ((s[k].toNat : Int) - 48) := by omega
          have hR := HR1.out (by omega)
          subst hR
          clear HE HS HM HF HD hle hbig HR1 HR2
          go_wp2
          go_ret2
          exact ⟨rfl, rfl⟩
        · have hr : ¬ (2147483647 : Int) < (m : Int) * 10 + ((s[k].toNat : Int) - 48) := by omega
          have hn : (m : Int) * 10 + ((s[k].toNat : Int) - 48) = ((10 * m + (s[k].toNat - 48) : Nat) : Int) := by omega
          have HN := Lib.hid hn
          clear hn hle
          go_wp2
          go_round
          case rel => exact ⟨k + 1, _, by go_num, by omega, by rw [HN.out], by omega, Lib.hid HE.out.symm⟩
          case measure => simp [intOf]; omega
      · have e : k = s.size := by omega
        subst e
        have hr : m = r := by rw [HP.out, HF.out]
        subst hr
        have hR := HR2.out (by omega)
        subst hR
        clear HD HS HM HF HP HR1 HR2
        go_wp2
        go_ret2
        exact ⟨rfl, rfl⟩
end Go.Proofs.YtaogofjnpnheeaaGreatDoor.Nu
