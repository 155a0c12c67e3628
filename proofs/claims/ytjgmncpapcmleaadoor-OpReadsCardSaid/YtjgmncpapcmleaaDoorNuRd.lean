/-
  Contracts of the document's own answers on numbers: Read. Not a statement of the seat.
-/
import Derived.Test.YtjgmncpapcmleaaDoorNuLen
namespace Go.Proofs.YtjgmncpapcmleaaDoor.Nu
open Go.ChangeShapes Go.WideShapes Go.ChangeAt Go.RowKit Go.Lib Lst
/-- Is a byte a digit? -/
def digB (c : UInt8) : Bool := decide (48 ≤ c.toNat ∧ c.toNat ≤ 57)
/-- One digit more, as far as the number is not too great already. -/
def capStep (n : Nat) (c : UInt8) : Nat := if n ≤ 2147483647 then 10 * n + (c.toNat - 48) else n
/-- The number of a text, and why it has none. -/
def readL (l : List UInt8) : Int × Int :=
  if l = [] ∨ (1 < l.length ∧ l.head? = some 48) then (0, 10)
  else if l.all digB = true then (if 2147483647 < l.foldl capStep 0 then (0, 1) else ((l.foldl capStep 0 : Nat), 0)) else (0, 10)
theorem capStep_bd {n : Nat} {c : UInt8} (hn : n ≤ 30000000000) (hd : digB c = true) : capStep n c ≤ 30000000000 := by
  have h := of_decide_eq_true hd
  unfold capStep
  split <;> omega
theorem fold_cap_bd : ∀ (l : List UInt8) (n : Nat), n ≤ 30000000000 → l.all digB = true → l.foldl capStep n ≤ 30000000000
  | [], n, h, _ => h
  | c :: l, n, h, hd => by
    rw [List.all_cons, Bool.and_eq_true] at hd
    rw [List.foldl_cons]
    exact fold_cap_bd l _ (capStep_bd h hd.1) hd.2
theorem take_snoc (s : ByteArray) (k : Nat) (h : k < s.size) : s.data.toList.take (k + 1) = s.data.toList.take k ++ [s[k]] := by
  rw [List.take_succ_eq_append_getElem (by simpa using h)]; rfl
set_option maxHeartbeats 2000000 in
theorem readR_any (s : ByteArray) (w : World) (hs : s.size ≤ 9223372036854775807) :
    Calls Tryd.prog 40 #[.string s] w fun e w' => e = .returned (.tuple #[.int .i64 (readL s.data.toList).1, .int .i64 (readL s.data.toList).2]) ∧ w = w' := by
  by_cases h0 : s.data.toList = []
  · have hs0 : s = ⟨#[]⟩ := by
      obtain ⟨⟨l⟩⟩ := s
      simp at h0
      subst h0
      rfl
    subst hs0
    go_enter Tryd.func40, Tryd.ntmps40
    go_wp2
    go_ret2
    exact ⟨by simp [readL], rfl⟩
  · have hpos : 0 < s.size := by
      rcases Nat.eq_zero_or_pos s.size with h | h
      · exact absurd (List.length_eq_zero_iff.1 (by simpa using h)) h0
      · exact h
    have hx0 : s.data.toList.head? = some s[0] := by
      rw [List.head?_eq_getElem?, List.getElem?_eq_getElem (by simpa using hpos)]
      rfl
    have hl : s.data.toList.length = s.size := by simp
    have hn1 : ¬ s.toList = [] := by rw [ByteArray.toList_eq]; exact h0
    have hn2 : s.toList.isEmpty = false := by
      rw [ByteArray.toList_eq]
      cases h : s.data.toList
      · exact absurd h h0
      · rfl
    have hbyte : s[0].toNat < 256 := s[0].toNat_lt
    by_cases hz : 1 < s.size ∧ s[0] = 48
    · have hR : readL s.data.toList = (0, 10) := by
        unfold readL
        rw [if_pos (.inr ⟨by rw [hl]; exact hz.1, by rw [hx0, hz.2]⟩)]
      rw [hR]
      have h1 : (1 : Int) < (s.size : Int) := by omega
      have h2 : ((s[0].toNat : Int) == 48) = true := by rw [hz.2]; rfl
      clear hx0 hR hz hl h0
      go_enter Tryd.func40, Tryd.ntmps40
      go_wp2
      go_ret2
      exact ⟨rfl, rfl⟩
    · have HR1 : Hid ((∃ j, ∃ h : j < s.size, digB s[j] = false) → readL s.data.toList = (0, 10)) := Lib.hid fun ⟨j, hj, hd⟩ => by
        unfold readL
        rw [if_neg (fun hh => by
          rcases hh with hh | ⟨ha, hb⟩
          · exact h0 hh
          · rw [hx0] at hb; exact hz ⟨by rw [← hl]; exact ha, Option.some.inj hb⟩)]
        rw [if_neg (fun hall => by
          have := List.all_eq_true.1 hall s[j] (by
            have : s[j] = s.data.toList[j]'(by rw [hl]; exact hj) := rfl
            rw [this]; exact List.getElem_mem _)
          rw [hd] at this; cases this)]
      have HR2 : Hid ((∀ j, ∀ h : j < s.size, digB s[j] = true) → readL s.data.toList = (if 2147483647 < s.data.toList.foldl capStep 0 then (0, 1) else (((s.data.toList.foldl capStep 0 : Nat) : Int), 0))) := Lib.hid fun hall => by
        unfold readL
        rw [if_neg (fun hh => by
          rcases hh with hh | ⟨ha, hb⟩
          · exact h0 hh
          · rw [hx0] at hb; exact hz ⟨by rw [← hl]; exact ha, Option.some.inj hb⟩)]
        rw [if_pos (List.all_eq_true.2 fun c hc => by
          obtain ⟨j, hj, e⟩ := List.mem_iff_getElem.1 hc
          rw [← e]; exact hall j (by rw [← hl]; exact hj))]
      have HS : Hid (∀ k (h : k < s.size), (s.data.toList.take (k + 1)).foldl capStep 0 = capStep ((s.data.toList.take k).foldl capStep 0) s[k]) := Lib.hid fun k h => by
        rw [take_snoc s k h, List.foldl_append]; rfl
      have HF : Hid ((s.data.toList.take s.size).foldl capStep 0 = s.data.toList.foldl capStep 0) := Lib.hid (by rw [← hl, List.take_length])
      have hd2 : Hid ((1 : Int) < (s.size : Int) → ((s[0].toNat : Int) == 48) = false) := Lib.hid fun h => by
        rw [beq_eq_false_iff_ne]
        intro e
        exact hz ⟨by omega, UInt8.toNat_inj.1 (by rw [show (48 : UInt8).toNat = 48 from rfl]; omega)⟩
      generalize readL s.data.toList = R at HR1 HR2 ⊢
      clear hx0 hl h0
      have hcase : ((1 : Int) < (s.size : Int) ∧ ((s[0].toNat : Int) == 48) = false) ∨ (s.size : Int) ≤ 1 := by
        by_cases h : (1 : Int) < (s.size : Int)
        · exact .inl ⟨h, hd2.out h⟩
        · exact .inr (by omega)
      clear hz hd2
      rcases hcase with ⟨hc1, hc2⟩ | hc1
      all_goals
        go_enter Tryd.func40, Tryd.ntmps40
        go_wp2
        go_loopw [4, 5] (fun s4 s5 wr => ∃ (k m : Nat), s5 = .int .i64 k ∧ k ≤ s.size ∧ s4 = .int .i64 (m : Int) ∧ m ≤ 30000000000 ∧ wr = w ∧ Hid (m = (s.data.toList.take k).foldl capStep 0) ∧ Hid (∀ j, j < k → ∀ h : j < s.size, digB s[j] = true)) (fun _ s5 _ => s.size - (intOf s5).toNat)
        case atStart => exact ⟨0, 0, rfl, Nat.zero_le _, rfl, by omega, rfl, Lib.hid rfl, Lib.hid fun j hj => absurd hj (by omega)⟩
        case round =>
          obtain ⟨k, m, rfl, hk, rfl, hm, rfl, HM, HD⟩ := hrel
          by_cases hlt : k < s.size
          · have hE := HS.out k hlt
            rw [← HM.out] at hE
            have HE := Lib.hid hE
            have hb2 : s[k].toNat < 256 := s[k].toNat_lt
            have HRK : Hid (digB s[k] = false → R = (0, 10)) := Lib.hid fun h => HR1.out ⟨k, hlt, h⟩
            have HDK : Hid (digB s[k] = true → ∀ j, j < k + 1 → ∀ h : j < s.size, digB s[j] = true) := Lib.hid fun h j hj hh => by
              by_cases e : j = k
              · subst e; exact h
              · exact HD.out j (by omega) hh
            clear hE
            by_cases hlo : (s[k].toNat : Int) < 48
            · have hR := HRK.out (by unfold digB; rw [decide_eq_false (by omega)])
              subst hR
              clear HR1 HR2 HRK HDK HS HF
              go_wp2
              go_ret2
              exact ⟨rfl, rfl⟩
            · by_cases hhi : (57 : Int) < (s[k].toNat : Int)
              · have hR := HRK.out (by unfold digB; rw [decide_eq_false (by omega)])
                subst hR
                clear HR1 HR2 HRK HDK HS HF
                go_wp2
                go_ret2
                exact ⟨rfl, rfl⟩
              · have hdig : digB s[k] = true := by unfold digB; rw [decide_eq_true (by omega)]
                have HD2 := Lib.hid (HDK.out hdig)
                clear HRK HDK hdig
                by_cases hcap : (m : Int) ≤ 2147483647
                · have hv : capStep m s[k] = 10 * m + (s[k].toNat - 48) := by unfold capStep; rw [if_pos (by omega)]
                  have hv2 : (10 : Int) * (m : Int) + (s[k].toNat : Int) - 48 = ((capStep m s[k] : Nat) : Int) := by rw [hv]; omega
                  have hv3 : capStep m s[k] ≤ 30000000000 := by rw [hv]; omega
                  have HV2 := Lib.hid hv2
                  clear hv hv2
                  generalize capStep m s[k] = m' at HE HV2 hv3
                  go_wp2_with fail
                  go_roundw
                  case rel => exact ⟨k + 1, m', by go_num, by omega, by rw [HV2.out], hv3, trivial, Lib.hid HE.out.symm, HD2⟩
                  case measure => simp [intOf]; omega
                · have hv : capStep m s[k] = m := by unfold capStep; rw [if_neg (by omega)]
                  rw [hv] at HE
                  clear hv
                  go_wp2_with fail
                  go_roundw
                  case rel => exact ⟨k + 1, m, by go_num, by omega, rfl, hm, trivial, Lib.hid HE.out.symm, HD2⟩
                  case measure => simp [intOf]; omega
          · have e : k = s.size := by omega
            subst e
            have hR := HR2.out (fun j hj => HD.out j hj hj)
            rw [← HF.out, ← HM.out] at hR
            clear HR1 HR2 HS HF HM HD
            by_cases hbig : (2147483647 : Int) < (m : Int)
            · rw [if_pos (by omega)] at hR
              subst hR
              go_wp2
              go_ret2
              exact ⟨rfl, rfl⟩
            · rw [if_neg (by omega)] at hR
              subst hR
              go_wp2
              go_ret2
              exact ⟨rfl, rfl⟩
end Go.Proofs.YtjgmncpapcmleaaDoor.Nu
