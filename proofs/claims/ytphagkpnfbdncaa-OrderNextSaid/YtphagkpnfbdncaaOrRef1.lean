/-
  Contracts of the document's own answers on orders: In, Index, Count, Id, Right, Perm, Next, Prev. Not a statement of the seat.
-/
import Derived.Test.YtphagkpnfbdncaaOr4
namespace Go.Proofs.Ytphagkpnfbdncaa.Or
open Go.ChangeShapes Go.WideShapes Go.ChangeAt Go.RowKit Base Lst
set_option maxHeartbeats 1000000 in
theorem in_any {base : Nat} {v : Value} {xs : List Int} (i : Int) (w : World) (h : Lst.Ints base w v xs) : Calls Try.prog 34 #[v, .int .i64 i] w fun e w' => e = .returned (.bool (decide (i ∈ xs))) ∧ w = w' := by
  obtain ⟨p, c, rfl, hl, hc⟩ := h.open_
  have HC := Lib.hid hc
  have HY : Hid (∀ k, k < xs.length → xs.getD k 0 = i → decide (i ∈ xs) = true) := Lib.hid fun k hk e => by
    rw [decide_eq_true_iff, ← e]
    simp [hk]
  have HN : Hid ((∀ j, j < xs.length → xs.getD j 0 ≠ i) → decide (i ∈ xs) = false) := Lib.hid fun h => by
    rw [decide_eq_false_iff_not]
    intro hm
    obtain ⟨j, hj, e⟩ := List.mem_iff_getElem.1 hm
    exact h j hj (by simpa [hj] using e)
  clear hc h
  generalize decide (i ∈ xs) = r at HY HN ⊢
  go_enter Try.func34, Try.ntmps34
  go_wp2_with fail
  go_loopw [9] (fun s9 wr => ∃ k : Nat, s9 = .int .i64 k ∧ k ≤ xs.length ∧ wr = w ∧ Hid (∀ j, j < k → xs.getD j 0 ≠ i)) (fun s9 _ => xs.length - (intOf s9).toNat)
  case atStart => exact ⟨0, rfl, Nat.zero_le _, rfl, Lib.hid fun j hj => absurd hj (by omega)⟩
  case round =>
    obtain ⟨k, rfl, hk, rfl, HK⟩ := hrel
    by_cases hlt : k < xs.length
    · obtain ⟨g', o', rfl, _, _, hcell⟩ := HC.out k hlt
      have HYK := Lib.hid (HY.out k hlt)
      have HKK : Hid (xs.getD k 0 ≠ i → ∀ j, j < k + 1 → xs.getD j 0 ≠ i) := Lib.hid fun h j hj => by
        by_cases e : j = k
        · rw [e]; exact h
        · exact HK.out j (by omega)
      generalize xs.getD k 0 = x at hcell HYK HKK
      by_cases hx : x = i
      · have hr := HYK.out hx
        subst hx
        have HR := Lib.hid hr
        clear HKK HK HYK hr
        go_wp2
        go_ret
        exact ⟨ret_bool HR.out.symm, rfl⟩
      · have HK2 := Lib.hid (HKK.out hx)
        have hd : (x == i) = false := by rw [beq_eq_false_iff_ne]; exact hx
        clear HKK HK HYK
        go_wp2_with fail
        go_roundw
        case rel => exact ⟨k + 1, by go_num, by omega, trivial, HK2⟩
        case measure => simp [intOf]; omega
    · have hr := HN.out (fun j hj => HK.out j (by omega))
      have HR := Lib.hid hr
      clear HK HY HN hr
      go_wp2
      go_ret
      exact ⟨ret_bool HR.out.symm, rfl⟩
set_option maxHeartbeats 1000000 in
theorem rindex_any {base : Nat} {v : Value} {xs : List Int} (i : Int) (w : World) (h : Ints base w v xs) : Calls Try.prog 28 #[v, .int .i64 i] w fun e w' => e = .returned (.int .i64 (Om.idx xs i)) ∧ w = w' := by
  obtain ⟨p, c, rfl, hl, hc⟩ := h.open_
  have HC := Lib.hid hc
  have HY : Hid (∀ k, k < xs.length → xs.getD k 0 = i → (∀ j, j < k → xs.getD j 0 ≠ i) → Om.idx xs i = k) := Lib.hid fun k hk e hn => Om.idx_hit k hk e hn
  have HN : Hid ((∀ j, j < xs.length → xs.getD j 0 ≠ i) → Om.idx xs i = -1) := Lib.hid fun h => Om.idx_miss h
  clear hc h
  generalize Om.idx xs i = r at HY HN ⊢
  go_enter Try.func28, Try.ntmps28
  go_wp2_with fail
  go_loopw [9] (fun s9 wr => ∃ k : Nat, s9 = .int .i64 k ∧ k ≤ xs.length ∧ wr = w ∧ Hid (∀ j, j < k → xs.getD j 0 ≠ i)) (fun s9 _ => xs.length - (intOf s9).toNat)
  case atStart => exact ⟨0, rfl, Nat.zero_le _, rfl, Lib.hid fun j hj => absurd hj (by omega)⟩
  case round =>
    obtain ⟨k, rfl, hk, rfl, HK⟩ := hrel
    by_cases hlt : k < xs.length
    · obtain ⟨g', o', rfl, _, _, hcell⟩ := HC.out k hlt
      have HYK := Lib.hid (HY.out k hlt)
      have HKK : Hid (xs.getD k 0 ≠ i → ∀ j, j < k + 1 → xs.getD j 0 ≠ i) := Lib.hid fun h j hj => by
        by_cases e : j = k
        · rw [e]; exact h
        · exact HK.out j (by omega)
      generalize xs.getD k 0 = x at hcell HYK HKK
      by_cases hx : x = i
      · have HR := Lib.hid (HYK.out hx HK.out)
        subst hx
        clear HKK HK HYK
        go_wp2
        go_ret
        exact ⟨ret_int HR.out.symm, rfl⟩
      · have HK2 := Lib.hid (HKK.out hx)
        have hd : (x == i) = false := by rw [beq_eq_false_iff_ne]; exact hx
        clear HKK HK HYK
        go_wp2_with fail
        go_roundw
        case rel => exact ⟨k + 1, by go_num, by omega, trivial, HK2⟩
        case measure => simp [intOf]; omega
    · have HR := Lib.hid (HN.out (fun j hj => HK.out j (by omega)))
      clear HK HY HN
      go_wp2
      go_ret
      exact ⟨ret_int HR.out.symm, rfl⟩
theorem count_snoc (xs : List Int) (k : Nat) (h : k < xs.length) (x : Int) : (xs.take (k + 1)).count x = (xs.take k).count x + (if x = xs.getD k 0 then 1 else 0) := Om.count_take xs k h x
set_option maxHeartbeats 1000000 in
theorem rcount_any {base : Nat} {v : Value} {xs : List Int} (i : Int) (w : World) (h : Ints base w v xs) (hx : xs.length ≤ 1000000) : Calls Try.prog 35 #[v, .int .i64 i] w fun e w' => e = .returned (.int .i64 (xs.count i : Nat)) ∧ w = w' := by
  obtain ⟨p, c, rfl, hl, hc⟩ := h.open_
  have HC := Lib.hid hc
  have HN : Hid (∀ k, xs.length ≤ k → (xs.take k).count i = xs.count i) := Lib.hid fun k hk => by rw [List.take_of_length_le hk]
  clear hc h
  obtain ⟨r, hr⟩ : ∃ r, r = xs.count i := ⟨_, rfl⟩
  rw [← hr] at HN ⊢
  clear hr
  go_enter Try.func35, Try.ntmps35
  go_wp2_with fail
  go_loopw [5, 10] (fun s5 s10 wr => ∃ k m : Nat, s10 = .int .i64 k ∧ s5 = .int .i64 m ∧ k ≤ xs.length ∧ m ≤ k ∧ wr = w ∧ Hid (m = (xs.take k).count i)) (fun _ s10 _ => xs.length - (intOf s10).toNat)
  case atStart => exact ⟨0, 0, rfl, rfl, Nat.zero_le _, Nat.le_refl _, rfl, Lib.hid (by simp)⟩
  case round =>
    obtain ⟨k, m, rfl, rfl, hk, hm, rfl, HK⟩ := hrel
    by_cases hlt : k < xs.length
    · obtain ⟨g', o', rfl, _, _, hcell⟩ := HC.out k hlt
      have HKK := Lib.hid (count_snoc xs k hlt i)
      generalize xs.getD k 0 = x at hcell HKK
      by_cases hx : i = x
      · subst hx
        have HK2 : Hid (m + 1 = (xs.take (k + 1)).count i) := Lib.hid (by rw [HKK.out, if_pos rfl, HK.out])
        clear HKK HK
        go_wp2_with fail
        go_roundw
        case rel => exact ⟨k + 1, m + 1, by go_num, by go_num, by omega, by omega, trivial, HK2⟩
        case measure => simp [intOf]; omega
      · have HK2 : Hid (m = (xs.take (k + 1)).count i) := Lib.hid (by rw [HKK.out, if_neg hx, HK.out]; rfl)
        have hd : (i == x) = false := by rw [beq_eq_false_iff_ne]; exact hx
        clear HKK HK
        go_wp2_with fail
        go_roundw
        case rel => exact ⟨k + 1, m, by go_num, rfl, by omega, by omega, trivial, HK2⟩
        case measure => simp [intOf]; omega
    · have HR : Hid (m = r) := Lib.hid (by rw [HK.out, HN.out k (by omega)])
      clear HK HN
      obtain rfl := HR.out
      go_wp2
      go_ret
      exact ⟨rfl, rfl⟩
def idB (x : Int) : Bool := decide (1 ≤ x ∧ x ≤ 1048575)
theorem rid_any (x : Int) (w : World) : Calls Try.prog 33 #[.int .i64 x] w fun e w' => e = .returned (.bool (idB x)) ∧ w = w' := by
  by_cases h1 : 1 ≤ x
  · by_cases h2 : x ≤ 1048575
    · have hi : idB x = true := decide_eq_true ⟨h1, h2⟩
      rw [hi]
      clear hi
      go_enter Try.func33, Try.ntmps33
      go_wp2
      go_ret
      exact ⟨ret_bool (by simp), rfl⟩
    · have hi : idB x = false := decide_eq_false fun h => h2 h.2
      rw [hi]
      clear hi
      go_enter Try.func33, Try.ntmps33
      go_wp2
      go_ret
      exact ⟨ret_bool (by simp), rfl⟩
  · have hi : idB x = false := decide_eq_false fun h => h1 h.1
    rw [hi]
    clear hi
    go_enter Try.func33, Try.ntmps33
    go_wp2
    go_ret
    exact ⟨rfl, rfl⟩
set_option maxHeartbeats 1000000 in
theorem rnext_any {base : Nat} {v : Value} {xs : List Int} (x : Int) (w : World) (h : Ints base w v xs) (hx : xs.length ≤ 1000000) : Calls Try.prog 8 #[v, .int .i64 x] w fun e w' => e = .returned (.tuple #[.int .i64 (Om.nextV xs x), .bool (Om.nextB xs x)]) ∧ w = w' := by
  unfold Om.nextV Om.nextB Om.nextAt
  have HI := Lib.hid (rindex_any x w h)
  have hb := Om.idx_bd xs x
  obtain ⟨p, c, rfl, hl, hc⟩ := h.open_
  by_cases h0 : x = 0
  · subst h0
    rw [if_pos rfl]
    by_cases hn : 0 < xs.length
    · obtain ⟨g', o', rfl, _, _, hcell⟩ := hc 0 hn
      rw [Nat.add_zero] at hcell
      have e1 := Om.atV_in 0 hn
      have e2 := Om.atB_in 0 hn
      simp only [Int.natCast_zero] at e1 e2
      rw [e1, e2]
      have hge : decide (xs.length ≤ 0) = false := by rw [decide_eq_false]; omega
      have hge' : decide ((xs.length : Int) ≤ 0) = false := by rw [decide_eq_false]; omega
      generalize xs.getD 0 0 = y at hcell ⊢
      generalize Om.idx xs 0 = i at HI hb
      clear hc h e1 e2 hge hge'
      generalize xs.length = n at HI hb hn hx hl ⊢
      have hge : (n == 0) = false := by rw [beq_eq_false_iff_ne]; omega
      have hge1 : ¬ n = 0 := by omega
      go_enter Try.func8, Try.ntmps8
      go_wp2_with (go_at_call 28; refine HI.out.mono ?_; rintro e w' ⟨rfl, rfl⟩)
      go_ret2
      exact ⟨rfl, rfl⟩
    · rw [Om.atV_out (.inr (by omega)), Om.atB_out (.inr (by omega))]
      have hge : decide (xs.length ≤ 0) = true := by rw [decide_eq_true]; omega
      have hge' : decide ((xs.length : Int) ≤ 0) = true := by rw [decide_eq_true]; omega
      generalize Om.idx xs 0 = i at HI hb
      clear hc h hge hge'
      generalize xs.length = n at HI hb hn hx hl ⊢
      obtain rfl : n = 0 := by omega
      go_enter Try.func8, Try.ntmps8
      go_wp2_with (go_at_call 28; refine HI.out.mono ?_; rintro e w' ⟨rfl, rfl⟩)
      go_ret2
      exact ⟨rfl, rfl⟩
  · rw [if_neg h0]
    have hd : (x == 0) = false := by rw [beq_eq_false_iff_ne]; exact h0
    by_cases hm : x ∈ xs
    · rw [if_pos hm]
      have hb0 : 0 ≤ Om.idx xs x := by rw [Om.idx_mem hm]; omega
      obtain ⟨i, hi⟩ : ∃ i : Nat, Om.idx xs x = i := ⟨(Om.idx xs x).toNat, by omega⟩
      rw [hi] at HI hb ⊢
      clear hi hb0 h h0 hm
      by_cases hn : i + 1 < xs.length
      · obtain ⟨g', o', rfl, _, _, hcell⟩ := hc (i + 1) hn
        have e1 := Om.atV_in (i + 1) hn
        have e2 := Om.atB_in (i + 1) hn
        have e3 : ((i + 1 : Nat) : Int) = (i : Int) + 1 := by omega
        rw [e3] at e1 e2
        rw [e1, e2]
        have hge : decide (xs.length ≤ i + 1) = false := by rw [decide_eq_false]; omega
        have hge' : decide ((xs.length : Int) ≤ (i : Int) + 1) = false := by rw [decide_eq_false]; omega
        have hlt : (i : Int) + 1 < (xs.length : Int) := by omega
        generalize xs.getD (i + 1) 0 = y at hcell ⊢
        clear hc e1 e2 e3
        go_enter Try.func8, Try.ntmps8
        go_wp2_with (go_at_call 28; refine HI.out.mono ?_; rintro e w' ⟨rfl, rfl⟩)
        go_ret2
        exact ⟨rfl, rfl⟩
      · rw [Om.atV_out (.inr (by omega)), Om.atB_out (.inr (by omega))]
        have hge : decide (xs.length ≤ i + 1) = true := by rw [decide_eq_true]; omega
        have hge' : decide ((xs.length : Int) ≤ (i : Int) + 1) = true := by rw [decide_eq_true]; omega
        clear hc
        go_enter Try.func8, Try.ntmps8
        go_wp2_with (go_at_call 28; refine HI.out.mono ?_; rintro e w' ⟨rfl, rfl⟩)
        go_ret2
        exact ⟨rfl, rfl⟩
    · rw [if_neg hm, Om.atV_out (.inl (by omega)), Om.atB_out (.inl (by omega))]
      rw [Om.idx_no hm] at HI
      clear h h0 hm hb hc
      go_enter Try.func8, Try.ntmps8
      go_wp2_with (go_at_call 28; refine HI.out.mono ?_; rintro e w' ⟨rfl, rfl⟩)
      go_ret2
      exact ⟨rfl, rfl⟩
set_option maxHeartbeats 1000000 in
theorem rprev_any {base : Nat} {v : Value} {xs : List Int} (x : Int) (w : World) (h : Ints base w v xs) (hx : xs.length ≤ 1000000) : Calls Try.prog 10 #[v, .int .i64 x] w fun e w' => e = .returned (.tuple #[.int .i64 (Om.prevV xs x), .bool (Om.prevB xs x)]) ∧ w = w' := by
  unfold Om.prevV Om.prevB
  have HI := Lib.hid (rindex_any x w h)
  have hb := Om.idx_bd xs x
  obtain ⟨p, c, rfl, hl, hc⟩ := h.open_
  generalize Om.idx xs x = i at HI hb ⊢
  clear h
  by_cases h1 : i < 1
  · rw [Om.atV_out (.inl (by omega)), Om.atB_out (.inl (by omega))]
    clear hc
    go_enter Try.func10, Try.ntmps10
    go_wp2_with (go_at_call 28; refine HI.out.mono ?_; rintro e w' ⟨rfl, rfl⟩)
    go_ret2
    exact ⟨rfl, rfl⟩
  · obtain ⟨j, rfl⟩ : ∃ j : Nat, i = (j : Int) + 1 := ⟨(i - 1).toNat, by omega⟩
    have hj : j < xs.length := by omega
    have e0 : (j : Int) + 1 - 1 = j := by omega
    rw [e0, Om.atV_in j hj, Om.atB_in j hj]
    obtain ⟨g', o', rfl, _, _, hcell⟩ := hc j hj
    generalize xs.getD j 0 = y at hcell ⊢
    clear hc e0
    go_enter Try.func10, Try.ntmps10
    go_wp2_with (go_at_call 28; refine HI.out.mono ?_; rintro e w' ⟨rfl, rfl⟩)
    go_ret2
    exact ⟨rfl, rfl⟩
set_option maxHeartbeats 1000000 in
theorem rright_any {v : Value} {xs : List Int} (w : World) (h : Sl w v xs) (hx : xs.length ≤ 1000000) : Calls Try.prog 18 #[v] w fun e w' => e = .returned (.bool (Om.rightB xs)) ∧ w = w' := by
  have hS := h.1
  obtain ⟨p, c, hv, hcap⟩ := h.2
  subst hv
  obtain ⟨p', c', hv', hl, hc⟩ := hS.open_
  injection hv' with e1 _ e3
  subst e1 e3
  have HC := Lib.hid hc
  have HCUT : Hid (∀ k, k ≤ xs.length → ∃ u, (∀ w, (Instr.sliceAt 22 (.slice p xs.length c) none (some (.int .i64 (k : Int))) none).run Try.prog w = .ok u w) ∧ Ints 0 w u (xs.take k)) := Lib.hid fun k hk => hS.slice_h k hk hcap
  have HBAD : Hid (∀ k, k < xs.length → (xs.getD k 0 < 1 ∨ 1048575 < xs.getD k 0 ∨ xs.getD k 0 ∈ xs.take k) → Om.rightB xs = false) := Lib.hid fun k hk hb => Om.rt_bad hk hb
  have HEND : Hid (∀ k, xs.length ≤ k → Om.Rt (xs.take k) → Om.rightB xs = true) := Lib.hid fun k hk h => Om.rt_end hk h
  clear hc hS h
  generalize Om.rightB xs = r at HBAD HEND ⊢
  go_enter Try.func18, Try.ntmps18
  go_wp2_with fail
  go_loopw [7] (fun s7 wr => ∃ k : Nat, s7 = .int .i64 k ∧ k ≤ xs.length ∧ wr = w ∧ Hid (Om.Rt (xs.take k))) (fun s7 _ => xs.length - (intOf s7).toNat)
  case atStart => exact ⟨0, rfl, Nat.zero_le _, rfl, Lib.hid (by simp [Om.Rt])⟩
  case round =>
    obtain ⟨k, rfl, hk, rfl, HR⟩ := hrel
    by_cases hlt : k < xs.length
    · obtain ⟨g', o', rfl, _, hg', hcell⟩ := HC.out k hlt
      obtain ⟨u, hsl, hu⟩ := HCUT.out k (by omega)
      have HID := Lib.hid (rid_any (xs.getD k 0) wr)
      have HIN := Lib.hid (in_any (xs.getD k 0) wr hu)
      have HBK := Lib.hid (HBAD.out k hlt)
      have HST : Hid (1 ≤ xs.getD k 0 → xs.getD k 0 ≤ 1048575 → xs.getD k 0 ∉ xs.take k → Om.Rt (xs.take (k + 1))) := Lib.hid fun h1 h2 h3 => Om.rt_step hlt HR.out h1 h2 h3
      clear hu
      generalize xs.getD k 0 = x at hcell HBK HID HIN HST
      by_cases hid : 1 ≤ x ∧ x ≤ 1048575
      · have e1 : idB x = true := decide_eq_true hid
        rw [e1] at HID
        by_cases h3 : x ∈ xs.take k
        · have HX := Lib.hid (HBK.out (.inr (.inr h3)))
          rw [decide_eq_true h3] at HIN
          clear HR HST HBK h3 e1 hid
          go_wp2_with (first
            | (go_at_call 33; refine HID.out.mono ?_; rintro e w' ⟨rfl, rfl⟩)
            | (go_at_call 34; refine HIN.out.mono ?_; rintro e w' ⟨rfl, rfl⟩))
          go_ret
          exact ⟨ret_bool HX.out.symm, rfl⟩
        · have HX := Lib.hid (HST.out hid.1 hid.2 h3)
          rw [decide_eq_false h3] at HIN
          clear HR HST HBK h3 e1 hid
          go_wp2_with (first
            | (go_at_call 33; refine HID.out.mono ?_; rintro e w' ⟨rfl, rfl⟩)
            | (go_at_call 34; refine HIN.out.mono ?_; rintro e w' ⟨rfl, rfl⟩))
          go_roundw
          case rel => exact ⟨k + 1, by go_num, by omega, trivial, HX⟩
          case measure => simp [intOf]; omega
      · have e1 : idB x = false := decide_eq_false hid
        rw [e1] at HID
        have HX := Lib.hid (HBK.out (by omega))
        clear HR HST HBK e1 hid
        go_wp2_with (go_at_call 33; refine HID.out.mono ?_; rintro e w' ⟨rfl, rfl⟩)
        go_ret
        exact ⟨ret_bool HX.out.symm, rfl⟩
    · have HX := Lib.hid (HEND.out k (by omega) HR.out)
      clear HR HBAD HEND
      go_wp2
      go_ret
      exact ⟨ret_bool HX.out.symm, rfl⟩
set_option maxHeartbeats 1000000 in
theorem rperm_any {b1 b2 : Nat} {v u : Value} {xs ys : List Int} (w : World) (h : Ints b1 w v xs) (hu : Ints b2 w u ys) (hx : xs.length ≤ 1000000) : Calls Try.prog 20 #[v, u] w fun e w' => e = .returned (.bool (Om.permB xs ys)) ∧ w = w' := by
  by_cases hn : xs.length = ys.length
  · have HA : Hid (∀ x, Calls Try.prog 35 #[v, .int .i64 x] w fun e w' => e = .returned (.int .i64 (xs.count x : Nat)) ∧ w = w') := Lib.hid fun x => rcount_any x w h hx
    have HB : Hid (∀ x, Calls Try.prog 35 #[u, .int .i64 x] w fun e w' => e = .returned (.int .i64 (ys.count x : Nat)) ∧ w = w') := Lib.hid fun x => rcount_any x w hu (by omega)
    obtain ⟨p, c, rfl, hl, hc⟩ := h.open_
    obtain ⟨p', c', rfl, hl', hc'⟩ := hu.open_
    have HC := Lib.hid hc
    have HNO : Hid (∀ x, xs.count x ≠ ys.count x → Om.permB xs ys = false) := Lib.hid fun x h => Om.perm_no x h
    have HYES : Hid ((∀ j, j < xs.length → xs.count (xs.getD j 0) = ys.count (xs.getD j 0)) → Om.permB xs ys = true) := Lib.hid fun h => Om.perm_yes' hn fun y hy => by
      obtain ⟨j, hj, e⟩ := List.getElem_of_mem hy
      have := h j hj
      rw [List.getD_eq_getElem?_getD, List.getElem?_eq_getElem hj] at this
      rw [← e]
      exact this
    have hb : ((xs.length : Int) != (ys.length : Int)) = false := by rw [bne_eq_false_iff_eq]; omega
    clear hc hc' h hu hn
    generalize Om.permB xs ys = r at HNO HYES ⊢
    go_enter Try.func20, Try.ntmps20
    go_wp2_with fail
    go_loopw [14] (fun s14 wr => ∃ k : Nat, s14 = .int .i64 k ∧ k ≤ xs.length ∧ wr = w ∧ Hid (∀ j, j < k → xs.count (xs.getD j 0) = ys.count (xs.getD j 0))) (fun s14 _ => xs.length - (intOf s14).toNat)
    case atStart => exact ⟨0, rfl, Nat.zero_le _, rfl, Lib.hid fun j hj => absurd hj (by omega)⟩
    case round =>
      obtain ⟨k, rfl, hk, rfl, HR⟩ := hrel
      by_cases hlt : k < xs.length
      · obtain ⟨g', o', rfl, _, hg', hcell⟩ := HC.out k hlt
        have HA1 := Lib.hid (HA.out (xs.getD k 0))
        have HB1 := Lib.hid (HB.out (xs.getD k 0))
        have HBK := Lib.hid (HNO.out (xs.getD k 0))
        have HST : Hid (xs.count (xs.getD k 0) = ys.count (xs.getD k 0) → ∀ j, j < k + 1 → xs.count (xs.getD j 0) = ys.count (xs.getD j 0)) := Lib.hid fun h j hj => by
          by_cases e : j = k
          · rw [e]; exact h
          · exact HR.out j (by omega)
        generalize xs.getD k 0 = x at hcell HA1 HB1 HBK HST
        obtain ⟨m, hm⟩ : ∃ m, m = xs.count x := ⟨_, rfl⟩
        obtain ⟨n, hn⟩ : ∃ n, n = ys.count x := ⟨_, rfl⟩
        rw [← hm, ← hn] at HBK HST
        rw [← hm] at HA1
        rw [← hn] at HB1
        clear hm hn HA HB
        by_cases he : m = n
        · have HX := Lib.hid (HST.out he)
          subst he
          clear HR HST HBK
          go_wp2_with (first
            | (go_at_call 35; ((with_reducible refine HA1.out.mono ?_); rintro e w' ⟨rfl, rfl⟩))
            | (go_at_call 35; ((with_reducible refine HB1.out.mono ?_); rintro e w' ⟨rfl, rfl⟩)))
          go_roundw
          case rel => exact ⟨k + 1, by go_num, by omega, trivial, HX⟩
          case measure => simp [intOf]; omega
        · have HX := Lib.hid (HBK.out he)
          have hd : ((m : Int) != (n : Int)) = true := by rw [bne_iff_ne]; omega
          clear HR HST HBK he
          go_wp2_with (first
            | (go_at_call 35; ((with_reducible refine HA1.out.mono ?_); rintro e w' ⟨rfl, rfl⟩))
            | (go_at_call 35; ((with_reducible refine HB1.out.mono ?_); rintro e w' ⟨rfl, rfl⟩)))
          go_ret
          exact ⟨ret_bool HX.out.symm, rfl⟩
      · have HX := Lib.hid (HYES.out fun j hj => HR.out j (by omega))
        clear HR HYES HNO HA HB
        go_wp2
        go_ret
        exact ⟨ret_bool HX.out.symm, rfl⟩
  · have hr := Om.perm_len hn
    rw [hr]
    obtain ⟨p, c, rfl, hl, hc⟩ := h.open_
    obtain ⟨p', c', rfl, hl', hc'⟩ := hu.open_
    have hb : ((xs.length : Int) != (ys.length : Int)) = true := by rw [bne_iff_ne]; omega
    clear hc hc' h hu hn hr
    go_enter Try.func20, Try.ntmps20
    go_wp2
    go_ret
    exact ⟨rfl, rfl⟩
end Go.Proofs.Ytphagkpnfbdncaa.Or
