/-
  Contracts of the document's Put and Or on the places of a number. Not a statement of the seat.
-/
import Derived.Test.YtoakpmbiplmpbaaDoorRef2
namespace Go.Proofs.YtoakpmbiplmpbaaDoor.Bits
open Go.ChangeShapes Go.WideShapes Go.ChangeAt Go.RowKit Base Go.Shelf
theorem fold_step {i : Int} {D : Bool} {xs : List Int} {k : Nat} {d : Bool} {zs : List Int} (hk : k < xs.length) (h : (xs.take k).foldl (putStep i) (D, []) = (d, zs)) : (xs.take (k + 1)).foldl (putStep i) (D, []) = putStep i (d, zs) (xs.getD k 0) := by
  rw [mem_take_succ hk, List.foldl_append, h]; rfl
theorem fold_len {i : Int} {D : Bool} {xs : List Int} {k : Nat} {d : Bool} {zs : List Int} (h : (xs.take k).foldl (putStep i) (D, []) = (d, zs)) : zs.length ≤ 2 * xs.length := by
  have h1 := putStep_len i (xs.take k) (D, [])
  rw [h] at h1
  simp only [List.length_nil, List.length_take] at h1
  omega
theorem step_skip {i x : Int} {zs : List Int} (hx : x = i) : putStep i (true, zs) x = (true, zs) := by simp [putStep, hx]
theorem step_keep {i x : Int} {zs : List Int} (hx : ¬ x = i) : putStep i (true, zs) x = (true, zs ++ [x]) := by simp [putStep, hx]
theorem step_two {i x : Int} {zs : List Int} (h : i ≤ x) (hx : ¬ x = i) : putStep i (false, zs) x = (true, (zs ++ [i]) ++ [x]) := by simp [putStep, hx, h]
theorem step_one {i x : Int} {zs : List Int} (hx : x = i) : putStep i (false, zs) x = (true, zs ++ [i]) := by simp [putStep, hx]
theorem step_low {i x : Int} {zs : List Int} (h : ¬ i ≤ x) : putStep i (false, zs) x = (false, zs ++ [x]) := by
  have hx : ¬ x = i := by omega
  simp [putStep, hx, h]
set_option maxHeartbeats 4000000 in
set_option maxRecDepth 100000 in
theorem put_case1 {b1 : Nat} {v : Value} {xs : List Int} {n i : Int} (w : World) (hx : Ints b1 w v xs) (hl : xs.length ≤ 400000) (R : List Int) (hR1 : ∀ zs, xs.foldl (putStep i) (true, []) = (true, zs) → R = zs) (hR2 : ∀ zs, xs.foldl (putStep i) (true, []) = (false, zs) → R = zs ++ [i]) :
    Calls Tryd.prog 45 #[v, .int .i64 n, .int .i64 i, .bool false] w (ListNew R w) := by
  have HR1 := Lib.hid hR1
  have HR2 := Lib.hid hR2
  clear hR1 hR2
  obtain ⟨p, c, rfl, _, hc⟩ := hx.open_
  have HC := Lib.hid hc
  have HS : Hid (∀ k d zs, k < xs.length → (xs.take k).foldl (putStep i) (true, []) = (d, zs) → (xs.take (k + 1)).foldl (putStep i) (true, []) = putStep i (d, zs) (xs.getD k 0)) := Lib.hid fun k d zs hk h => fold_step hk h
  have HF0 : Hid ((xs.take xs.length).foldl (putStep i) (true, []) = xs.foldl (putStep i) (true, [])) := Lib.hid (by rw [List.take_length])
  clear hc hx
  have HN := Lib.hid (OwnI.nil w.heap.size w)
  have HB0 := Lib.hid (Below.refl w.heap.size w)
  go_enter Tryd.func45, Tryd.ntmps45
  go_wp2_with fail
  go_loopw [9, 10, 26] (fun s9 s10 s26 wr => ∃ (k : Nat) (d : Bool) (zs : List Int), s26 = .int .i64 k ∧ s10 = .bool d ∧ k ≤ xs.length ∧ Hid ((xs.take k).foldl (putStep i) (true, []) = (d, zs)) ∧ OwnI w.heap.size wr s9 zs ∧ Below w.heap.size w wr) (fun _ _ s26 _ => xs.length - (intOf s26).toNat)
  case atStart => exact ⟨0, true, [], rfl, rfl, Nat.zero_le _, Lib.hid rfl, HN.out, HB0.out⟩
  case round =>
    obtain ⟨k, d, zs, rfl, rfl, hk, HK, hown, hb⟩ := hrel
    have hfl := fold_len HK.out
    by_cases hlt : k < xs.length
    · obtain ⟨g', o', rfl, _, hg, hcell⟩ := HC.out k hlt
      have hcell := (hb.cell (p := ⟨g', o' + k, none⟩) hg).trans hcell
      have HE := Lib.hid (HS.out k d zs hlt HK.out)
      have HB := Lib.hid hb
      have HO := Lib.hid hown
      clear hb hown HK
      generalize xs.getD k 0 = x at hcell HE
      cases d
      · by_cases h1 : i ≤ x
        · by_cases h2 : x = i
          · have HE2 := Lib.hid (HE.out.trans (step_one h2))
            subst h2
            clear HE
            go_wp2_with (at_builtin; refine append_int rfl (.tmp 37) (.tmp 39) rfl HB.out HO.out rfl rfl (by omega) ?_; intro v' w2 ho hb)
            have HO2 := Lib.hid ho
            have HB2 := Lib.hid hb
            clear ho hb
            go_wp2_with fail
            go_roundw
            case rel => exact ⟨k + 1, true, _, by go_num, rfl, by omega, HE2, HO2.out, HB2.out⟩
            case measure => simp [intOf]; omega
          · have HE2 := Lib.hid (HE.out.trans (step_two h1 h2))
            have hd : (x != i) = true := by rw [bne_iff_ne]; exact h2
            clear HE
            go_wp2_with (first | (at_builtin; refine append_int rfl (.tmp 37) (.tmp 39) rfl HB.out HO.out rfl rfl (by omega) ?_; intro v' w2 ho hb; have HO2 := Lib.hid ho; have HB2 := Lib.hid hb; clear ho hb) | (at_builtin; refine append_int rfl (.tmp 44) (.tmp 46) rfl HB2.out HO2.out rfl rfl (by simp; omega) ?_; intro v' w3 ho hb))
            have HO3 := Lib.hid ho
            have HB3 := Lib.hid hb
            clear ho hb
            go_wp2_with fail
            go_roundw
            case rel => exact ⟨k + 1, true, _, by go_num, rfl, by omega, HE2, HO3.out, HB3.out⟩
            case measure => simp [intOf]; omega
        · have HE2 := Lib.hid (HE.out.trans (step_low h1))
          have hd : (x != i) = true := by rw [bne_iff_ne]; omega
          clear HE
          go_wp2_with (at_builtin; refine append_int rfl (.tmp 44) (.tmp 46) rfl HB.out HO.out rfl rfl (by omega) ?_; intro v' w2 ho hb)
          have HO2 := Lib.hid ho
          have HB2 := Lib.hid hb
          clear ho hb
          go_wp2_with fail
          go_roundw
          case rel => exact ⟨k + 1, false, _, by go_num, rfl, by omega, HE2, HO2.out, HB2.out⟩
          case measure => simp [intOf]; omega
      · by_cases h2 : x = i
        · have HE2 := Lib.hid (HE.out.trans (step_skip h2))
          subst h2
          clear HE
          go_wp2_with fail
          go_roundw
          case rel => exact ⟨k + 1, true, _, by go_num, rfl, by omega, HE2, HO.out, HB.out⟩
          case measure => simp [intOf]; omega
        · have HE2 := Lib.hid (HE.out.trans (step_keep h2))
          have hd : (x != i) = true := by rw [bne_iff_ne]; exact h2
          clear HE
          go_wp2_with (at_builtin; refine append_int rfl (.tmp 44) (.tmp 46) rfl HB.out HO.out rfl rfl (by omega) ?_; intro v' w2 ho hb)
          have HO2 := Lib.hid ho
          have HB2 := Lib.hid hb
          clear ho hb
          go_wp2_with fail
          go_roundw
          case rel => exact ⟨k + 1, true, _, by go_num, rfl, by omega, HE2, HO2.out, HB2.out⟩
          case measure => simp [intOf]; omega
    · have e : k = xs.length := by omega
      subst e
      rw [HF0.out] at HK
      have HB := Lib.hid hb
      have HO := Lib.hid hown
      clear hb hown HS HC HF0
      cases d
      · have hr := HR2.out _ HK.out
        subst hr
        clear HR1 HR2 HK
        go_wp2_with (at_builtin; refine append_int rfl (.tmp 51) (.tmp 53) rfl HB.out HO.out rfl rfl (by omega) ?_; intro v' w2 ho hb)
        have HO2 := Lib.hid (ho.ints (by simp; omega))
        have HB2 := Lib.hid hb
        clear ho hb
        go_wp2
        go_ret
        exact ⟨⟨_, rfl, HO2.out⟩, HB2.out⟩
      · have hr := HR1.out _ HK.out
        subst hr
        clear HR1 HR2 HK
        have HO2 := Lib.hid (HO.out.ints (by omega))
        go_wp2
        go_ret
        exact ⟨⟨_, rfl, HO2.out⟩, HB.out⟩
set_option maxHeartbeats 4000000 in
set_option maxRecDepth 100000 in
theorem put_case2 {b1 : Nat} {v : Value} {xs : List Int} {n i : Int} (w : World) (hx : Ints b1 w v xs) (hl : xs.length ≤ 400000) (h1 : i < 0) (R : List Int) (hR1 : ∀ zs, xs.foldl (putStep i) (true, []) = (true, zs) → R = zs) (hR2 : ∀ zs, xs.foldl (putStep i) (true, []) = (false, zs) → R = zs ++ [i]) :
    Calls Tryd.prog 45 #[v, .int .i64 n, .int .i64 i, .bool true] w (ListNew R w) := by
  have HR1 := Lib.hid hR1
  have HR2 := Lib.hid hR2
  clear hR1 hR2
  obtain ⟨p, c, rfl, _, hc⟩ := hx.open_
  have HC := Lib.hid hc
  have HS : Hid (∀ k d zs, k < xs.length → (xs.take k).foldl (putStep i) (true, []) = (d, zs) → (xs.take (k + 1)).foldl (putStep i) (true, []) = putStep i (d, zs) (xs.getD k 0)) := Lib.hid fun k d zs hk h => fold_step hk h
  have HF0 : Hid ((xs.take xs.length).foldl (putStep i) (true, []) = xs.foldl (putStep i) (true, [])) := Lib.hid (by rw [List.take_length])
  clear hc hx
  have HN := Lib.hid (OwnI.nil w.heap.size w)
  have HB0 := Lib.hid (Below.refl w.heap.size w)
  go_enter Tryd.func45, Tryd.ntmps45
  go_wp2_with fail
  go_loopw [9, 10, 26] (fun s9 s10 s26 wr => ∃ (k : Nat) (d : Bool) (zs : List Int), s26 = .int .i64 k ∧ s10 = .bool d ∧ k ≤ xs.length ∧ Hid ((xs.take k).foldl (putStep i) (true, []) = (d, zs)) ∧ OwnI w.heap.size wr s9 zs ∧ Below w.heap.size w wr) (fun _ _ s26 _ => xs.length - (intOf s26).toNat)
  case atStart => exact ⟨0, true, [], rfl, rfl, Nat.zero_le _, Lib.hid rfl, HN.out, HB0.out⟩
  case round =>
    obtain ⟨k, d, zs, rfl, rfl, hk, HK, hown, hb⟩ := hrel
    have hfl := fold_len HK.out
    by_cases hlt : k < xs.length
    · obtain ⟨g', o', rfl, _, hg, hcell⟩ := HC.out k hlt
      have hcell := (hb.cell (p := ⟨g', o' + k, none⟩) hg).trans hcell
      have HE := Lib.hid (HS.out k d zs hlt HK.out)
      have HB := Lib.hid hb
      have HO := Lib.hid hown
      clear hb hown HK
      generalize xs.getD k 0 = x at hcell HE
      cases d
      · by_cases h1 : i ≤ x
        · by_cases h2 : x = i
          · have HE2 := Lib.hid (HE.out.trans (step_one h2))
            subst h2
            clear HE
            go_wp2_with (at_builtin; refine append_int rfl (.tmp 37) (.tmp 39) rfl HB.out HO.out rfl rfl (by omega) ?_; intro v' w2 ho hb)
            have HO2 := Lib.hid ho
            have HB2 := Lib.hid hb
            clear ho hb
            go_wp2_with fail
            go_roundw
            case rel => exact ⟨k + 1, true, _, by go_num, rfl, by omega, HE2, HO2.out, HB2.out⟩
            case measure => simp [intOf]; omega
          · have HE2 := Lib.hid (HE.out.trans (step_two h1 h2))
            have hd : (x != i) = true := by rw [bne_iff_ne]; exact h2
            clear HE
            go_wp2_with (first | (at_builtin; refine append_int rfl (.tmp 37) (.tmp 39) rfl HB.out HO.out rfl rfl (by omega) ?_; intro v' w2 ho hb; have HO2 := Lib.hid ho; have HB2 := Lib.hid hb; clear ho hb) | (at_builtin; refine append_int rfl (.tmp 44) (.tmp 46) rfl HB2.out HO2.out rfl rfl (by simp; omega) ?_; intro v' w3 ho hb))
            have HO3 := Lib.hid ho
            have HB3 := Lib.hid hb
            clear ho hb
            go_wp2_with fail
            go_roundw
            case rel => exact ⟨k + 1, true, _, by go_num, rfl, by omega, HE2, HO3.out, HB3.out⟩
            case measure => simp [intOf]; omega
        · have HE2 := Lib.hid (HE.out.trans (step_low h1))
          have hd : (x != i) = true := by rw [bne_iff_ne]; omega
          clear HE
          go_wp2_with (at_builtin; refine append_int rfl (.tmp 44) (.tmp 46) rfl HB.out HO.out rfl rfl (by omega) ?_; intro v' w2 ho hb)
          have HO2 := Lib.hid ho
          have HB2 := Lib.hid hb
          clear ho hb
          go_wp2_with fail
          go_roundw
          case rel => exact ⟨k + 1, false, _, by go_num, rfl, by omega, HE2, HO2.out, HB2.out⟩
          case measure => simp [intOf]; omega
      · by_cases h2 : x = i
        · have HE2 := Lib.hid (HE.out.trans (step_skip h2))
          subst h2
          clear HE
          go_wp2_with fail
          go_roundw
          case rel => exact ⟨k + 1, true, _, by go_num, rfl, by omega, HE2, HO.out, HB.out⟩
          case measure => simp [intOf]; omega
        · have HE2 := Lib.hid (HE.out.trans (step_keep h2))
          have hd : (x != i) = true := by rw [bne_iff_ne]; exact h2
          clear HE
          go_wp2_with (at_builtin; refine append_int rfl (.tmp 44) (.tmp 46) rfl HB.out HO.out rfl rfl (by omega) ?_; intro v' w2 ho hb)
          have HO2 := Lib.hid ho
          have HB2 := Lib.hid hb
          clear ho hb
          go_wp2_with fail
          go_roundw
          case rel => exact ⟨k + 1, true, _, by go_num, rfl, by omega, HE2, HO2.out, HB2.out⟩
          case measure => simp [intOf]; omega
    · have e : k = xs.length := by omega
      subst e
      rw [HF0.out] at HK
      have HB := Lib.hid hb
      have HO := Lib.hid hown
      clear hb hown HS HC HF0
      cases d
      · have hr := HR2.out _ HK.out
        subst hr
        clear HR1 HR2 HK
        go_wp2_with (at_builtin; refine append_int rfl (.tmp 51) (.tmp 53) rfl HB.out HO.out rfl rfl (by omega) ?_; intro v' w2 ho hb)
        have HO2 := Lib.hid (ho.ints (by simp; omega))
        have HB2 := Lib.hid hb
        clear ho hb
        go_wp2
        go_ret
        exact ⟨⟨_, rfl, HO2.out⟩, HB2.out⟩
      · have hr := HR1.out _ HK.out
        subst hr
        clear HR1 HR2 HK
        have HO2 := Lib.hid (HO.out.ints (by omega))
        go_wp2
        go_ret
        exact ⟨⟨_, rfl, HO2.out⟩, HB.out⟩
set_option maxHeartbeats 4000000 in
set_option maxRecDepth 100000 in
theorem put_case3 {b1 : Nat} {v : Value} {xs : List Int} {n i : Int} (w : World) (hx : Ints b1 w v xs) (hl : xs.length ≤ 400000) (h0 : 0 ≤ i) (h1 : n ≤ i) (R : List Int) (hR1 : ∀ zs, xs.foldl (putStep i) (true, []) = (true, zs) → R = zs) (hR2 : ∀ zs, xs.foldl (putStep i) (true, []) = (false, zs) → R = zs ++ [i]) :
    Calls Tryd.prog 45 #[v, .int .i64 n, .int .i64 i, .bool true] w (ListNew R w) := by
  have HR1 := Lib.hid hR1
  have HR2 := Lib.hid hR2
  clear hR1 hR2
  obtain ⟨p, c, rfl, _, hc⟩ := hx.open_
  have HC := Lib.hid hc
  have HS : Hid (∀ k d zs, k < xs.length → (xs.take k).foldl (putStep i) (true, []) = (d, zs) → (xs.take (k + 1)).foldl (putStep i) (true, []) = putStep i (d, zs) (xs.getD k 0)) := Lib.hid fun k d zs hk h => fold_step hk h
  have HF0 : Hid ((xs.take xs.length).foldl (putStep i) (true, []) = xs.foldl (putStep i) (true, [])) := Lib.hid (by rw [List.take_length])
  clear hc hx
  have HN := Lib.hid (OwnI.nil w.heap.size w)
  have HB0 := Lib.hid (Below.refl w.heap.size w)
  go_enter Tryd.func45, Tryd.ntmps45
  go_wp2_with fail
  go_loopw [9, 10, 26] (fun s9 s10 s26 wr => ∃ (k : Nat) (d : Bool) (zs : List Int), s26 = .int .i64 k ∧ s10 = .bool d ∧ k ≤ xs.length ∧ Hid ((xs.take k).foldl (putStep i) (true, []) = (d, zs)) ∧ OwnI w.heap.size wr s9 zs ∧ Below w.heap.size w wr) (fun _ _ s26 _ => xs.length - (intOf s26).toNat)
  case atStart => exact ⟨0, true, [], rfl, rfl, Nat.zero_le _, Lib.hid rfl, HN.out, HB0.out⟩
  case round =>
    obtain ⟨k, d, zs, rfl, rfl, hk, HK, hown, hb⟩ := hrel
    have hfl := fold_len HK.out
    by_cases hlt : k < xs.length
    · obtain ⟨g', o', rfl, _, hg, hcell⟩ := HC.out k hlt
      have hcell := (hb.cell (p := ⟨g', o' + k, none⟩) hg).trans hcell
      have HE := Lib.hid (HS.out k d zs hlt HK.out)
      have HB := Lib.hid hb
      have HO := Lib.hid hown
      clear hb hown HK
      generalize xs.getD k 0 = x at hcell HE
      cases d
      · by_cases h1 : i ≤ x
        · by_cases h2 : x = i
          · have HE2 := Lib.hid (HE.out.trans (step_one h2))
            subst h2
            clear HE
            go_wp2_with (at_builtin; refine append_int rfl (.tmp 37) (.tmp 39) rfl HB.out HO.out rfl rfl (by omega) ?_; intro v' w2 ho hb)
            have HO2 := Lib.hid ho
            have HB2 := Lib.hid hb
            clear ho hb
            go_wp2_with fail
            go_roundw
            case rel => exact ⟨k + 1, true, _, by go_num, rfl, by omega, HE2, HO2.out, HB2.out⟩
            case measure => simp [intOf]; omega
          · have HE2 := Lib.hid (HE.out.trans (step_two h1 h2))
            have hd : (x != i) = true := by rw [bne_iff_ne]; exact h2
            clear HE
            go_wp2_with (first | (at_builtin; refine append_int rfl (.tmp 37) (.tmp 39) rfl HB.out HO.out rfl rfl (by omega) ?_; intro v' w2 ho hb; have HO2 := Lib.hid ho; have HB2 := Lib.hid hb; clear ho hb) | (at_builtin; refine append_int rfl (.tmp 44) (.tmp 46) rfl HB2.out HO2.out rfl rfl (by simp; omega) ?_; intro v' w3 ho hb))
            have HO3 := Lib.hid ho
            have HB3 := Lib.hid hb
            clear ho hb
            go_wp2_with fail
            go_roundw
            case rel => exact ⟨k + 1, true, _, by go_num, rfl, by omega, HE2, HO3.out, HB3.out⟩
            case measure => simp [intOf]; omega
        · have HE2 := Lib.hid (HE.out.trans (step_low h1))
          have hd : (x != i) = true := by rw [bne_iff_ne]; omega
          clear HE
          go_wp2_with (at_builtin; refine append_int rfl (.tmp 44) (.tmp 46) rfl HB.out HO.out rfl rfl (by omega) ?_; intro v' w2 ho hb)
          have HO2 := Lib.hid ho
          have HB2 := Lib.hid hb
          clear ho hb
          go_wp2_with fail
          go_roundw
          case rel => exact ⟨k + 1, false, _, by go_num, rfl, by omega, HE2, HO2.out, HB2.out⟩
          case measure => simp [intOf]; omega
      · by_cases h2 : x = i
        · have HE2 := Lib.hid (HE.out.trans (step_skip h2))
          subst h2
          clear HE
          go_wp2_with fail
          go_roundw
          case rel => exact ⟨k + 1, true, _, by go_num, rfl, by omega, HE2, HO.out, HB.out⟩
          case measure => simp [intOf]; omega
        · have HE2 := Lib.hid (HE.out.trans (step_keep h2))
          have hd : (x != i) = true := by rw [bne_iff_ne]; exact h2
          clear HE
          go_wp2_with (at_builtin; refine append_int rfl (.tmp 44) (.tmp 46) rfl HB.out HO.out rfl rfl (by omega) ?_; intro v' w2 ho hb)
          have HO2 := Lib.hid ho
          have HB2 := Lib.hid hb
          clear ho hb
          go_wp2_with fail
          go_roundw
          case rel => exact ⟨k + 1, true, _, by go_num, rfl, by omega, HE2, HO2.out, HB2.out⟩
          case measure => simp [intOf]; omega
    · have e : k = xs.length := by omega
      subst e
      rw [HF0.out] at HK
      have HB := Lib.hid hb
      have HO := Lib.hid hown
      clear hb hown HS HC HF0
      cases d
      · have hr := HR2.out _ HK.out
        subst hr
        clear HR1 HR2 HK
        go_wp2_with (at_builtin; refine append_int rfl (.tmp 51) (.tmp 53) rfl HB.out HO.out rfl rfl (by omega) ?_; intro v' w2 ho hb)
        have HO2 := Lib.hid (ho.ints (by simp; omega))
        have HB2 := Lib.hid hb
        clear ho hb
        go_wp2
        go_ret
        exact ⟨⟨_, rfl, HO2.out⟩, HB2.out⟩
      · have hr := HR1.out _ HK.out
        subst hr
        clear HR1 HR2 HK
        have HO2 := Lib.hid (HO.out.ints (by omega))
        go_wp2
        go_ret
        exact ⟨⟨_, rfl, HO2.out⟩, HB.out⟩
set_option maxHeartbeats 4000000 in
set_option maxRecDepth 100000 in
theorem put_case4 {b1 : Nat} {v : Value} {xs : List Int} {n i : Int} (w : World) (hx : Ints b1 w v xs) (hl : xs.length ≤ 400000) (h0 : 0 ≤ i) (h1 : i < n) (R : List Int) (hR1 : ∀ zs, xs.foldl (putStep i) (false, []) = (true, zs) → R = zs) (hR2 : ∀ zs, xs.foldl (putStep i) (false, []) = (false, zs) → R = zs ++ [i]) :
    Calls Tryd.prog 45 #[v, .int .i64 n, .int .i64 i, .bool true] w (ListNew R w) := by
  have HR1 := Lib.hid hR1
  have HR2 := Lib.hid hR2
  clear hR1 hR2
  obtain ⟨p, c, rfl, _, hc⟩ := hx.open_
  have HC := Lib.hid hc
  have HS : Hid (∀ k d zs, k < xs.length → (xs.take k).foldl (putStep i) (false, []) = (d, zs) → (xs.take (k + 1)).foldl (putStep i) (false, []) = putStep i (d, zs) (xs.getD k 0)) := Lib.hid fun k d zs hk h => fold_step hk h
  have HF0 : Hid ((xs.take xs.length).foldl (putStep i) (false, []) = xs.foldl (putStep i) (false, [])) := Lib.hid (by rw [List.take_length])
  clear hc hx
  have HN := Lib.hid (OwnI.nil w.heap.size w)
  have HB0 := Lib.hid (Below.refl w.heap.size w)
  go_enter Tryd.func45, Tryd.ntmps45
  go_wp2_with fail
  go_loopw [9, 10, 26] (fun s9 s10 s26 wr => ∃ (k : Nat) (d : Bool) (zs : List Int), s26 = .int .i64 k ∧ s10 = .bool d ∧ k ≤ xs.length ∧ Hid ((xs.take k).foldl (putStep i) (false, []) = (d, zs)) ∧ OwnI w.heap.size wr s9 zs ∧ Below w.heap.size w wr) (fun _ _ s26 _ => xs.length - (intOf s26).toNat)
  case atStart => exact ⟨0, false, [], rfl, by rw [decide_eq_false (by omega), decide_eq_false (by omega)]; rfl, Nat.zero_le _, Lib.hid rfl, HN.out, HB0.out⟩
  case round =>
    obtain ⟨k, d, zs, rfl, rfl, hk, HK, hown, hb⟩ := hrel
    have hfl := fold_len HK.out
    by_cases hlt : k < xs.length
    · obtain ⟨g', o', rfl, _, hg, hcell⟩ := HC.out k hlt
      have hcell := (hb.cell (p := ⟨g', o' + k, none⟩) hg).trans hcell
      have HE := Lib.hid (HS.out k d zs hlt HK.out)
      have HB := Lib.hid hb
      have HO := Lib.hid hown
      clear hb hown HK
      generalize xs.getD k 0 = x at hcell HE
      cases d
      · by_cases h1 : i ≤ x
        · by_cases h2 : x = i
          · have HE2 := Lib.hid (HE.out.trans (step_one h2))
            subst h2
            clear HE
            go_wp2_with (at_builtin; refine append_int rfl (.tmp 37) (.tmp 39) rfl HB.out HO.out rfl rfl (by omega) ?_; intro v' w2 ho hb)
            have HO2 := Lib.hid ho
            have HB2 := Lib.hid hb
            clear ho hb
            go_wp2_with fail
            go_roundw
            case rel => exact ⟨k + 1, true, _, by go_num, rfl, by omega, HE2, HO2.out, HB2.out⟩
            case measure => simp [intOf]; omega
          · have HE2 := Lib.hid (HE.out.trans (step_two h1 h2))
            have hd : (x != i) = true := by rw [bne_iff_ne]; exact h2
            clear HE
            go_wp2_with (first | (at_builtin; refine append_int rfl (.tmp 37) (.tmp 39) rfl HB.out HO.out rfl rfl (by omega) ?_; intro v' w2 ho hb; have HO2 := Lib.hid ho; have HB2 := Lib.hid hb; clear ho hb) | (at_builtin; refine append_int rfl (.tmp 44) (.tmp 46) rfl HB2.out HO2.out rfl rfl (by simp; omega) ?_; intro v' w3 ho hb))
            have HO3 := Lib.hid ho
            have HB3 := Lib.hid hb
            clear ho hb
            go_wp2_with fail
            go_roundw
            case rel => exact ⟨k + 1, true, _, by go_num, rfl, by omega, HE2, HO3.out, HB3.out⟩
            case measure => simp [intOf]; omega
        · have HE2 := Lib.hid (HE.out.trans (step_low h1))
          have hd : (x != i) = true := by rw [bne_iff_ne]; omega
          clear HE
          go_wp2_with (at_builtin; refine append_int rfl (.tmp 44) (.tmp 46) rfl HB.out HO.out rfl rfl (by omega) ?_; intro v' w2 ho hb)
          have HO2 := Lib.hid ho
          have HB2 := Lib.hid hb
          clear ho hb
          go_wp2_with fail
          go_roundw
          case rel => exact ⟨k + 1, false, _, by go_num, rfl, by omega, HE2, HO2.out, HB2.out⟩
          case measure => simp [intOf]; omega
      · by_cases h2 : x = i
        · have HE2 := Lib.hid (HE.out.trans (step_skip h2))
          subst h2
          clear HE
          go_wp2_with fail
          go_roundw
          case rel => exact ⟨k + 1, true, _, by go_num, rfl, by omega, HE2, HO.out, HB.out⟩
          case measure => simp [intOf]; omega
        · have HE2 := Lib.hid (HE.out.trans (step_keep h2))
          have hd : (x != i) = true := by rw [bne_iff_ne]; exact h2
          clear HE
          go_wp2_with (at_builtin; refine append_int rfl (.tmp 44) (.tmp 46) rfl HB.out HO.out rfl rfl (by omega) ?_; intro v' w2 ho hb)
          have HO2 := Lib.hid ho
          have HB2 := Lib.hid hb
          clear ho hb
          go_wp2_with fail
          go_roundw
          case rel => exact ⟨k + 1, true, _, by go_num, rfl, by omega, HE2, HO2.out, HB2.out⟩
          case measure => simp [intOf]; omega
    · have e : k = xs.length := by omega
      subst e
      rw [HF0.out] at HK
      have HB := Lib.hid hb
      have HO := Lib.hid hown
      clear hb hown HS HC HF0
      cases d
      · have hr := HR2.out _ HK.out
        subst hr
        clear HR1 HR2 HK
        go_wp2_with (at_builtin; refine append_int rfl (.tmp 51) (.tmp 53) rfl HB.out HO.out rfl rfl (by omega) ?_; intro v' w2 ho hb)
        have HO2 := Lib.hid (ho.ints (by simp; omega))
        have HB2 := Lib.hid hb
        clear ho hb
        go_wp2
        go_ret
        exact ⟨⟨_, rfl, HO2.out⟩, HB2.out⟩
      · have hr := HR1.out _ HK.out
        subst hr
        clear HR1 HR2 HK
        have HO2 := Lib.hid (HO.out.ints (by omega))
        go_wp2
        go_ret
        exact ⟨⟨_, rfl, HO2.out⟩, HB.out⟩
/-- The document's Put on the places of a number. -/
theorem put_row {b1 N V : Nat} {v : Value} {i : Int} {on : Bool} (w : World) (hx : Ints b1 w v (intsOf N V)) (hN : N ≤ 65536) :
    Calls Tryd.prog 45 #[v, .int .i64 (N : Int), .int .i64 i, .bool on] w (ListNew (intsOf N (setV N V i on)) w) := by
  have hl := Nat.le_trans (intsOf_len N V) (by omega : N ≤ 400000)
  have hr : ∀ D : Bool, D = (!on || decide (i < 0) || decide ((N : Int) ≤ i)) → (∀ zs, (intsOf N V).foldl (putStep i) (D, []) = (true, zs) → intsOf N (setV N V i on) = zs) ∧ (∀ zs, (intsOf N V).foldl (putStep i) (D, []) = (false, zs) → intsOf N (setV N V i on) = zs ++ [i]) := fun D hD => by
    rw [← put_ints (i := i) (on := on)]
    unfold putL
    rw [← hD]
    exact ⟨fun zs h => by simp [h], fun zs h => by simp [h]⟩
  cases on
  · have h := hr true (by simp)
    exact put_case1 w hx hl _ h.1 h.2
  · by_cases h1 : i < 0
    · have h := hr true (by simp [h1])
      exact put_case2 w hx hl h1 _ h.1 h.2
    · by_cases h2 : (N : Int) ≤ i
      · have h := hr true (by simp [h2])
        exact put_case3 w hx hl (by omega) h2 _ h.1 h.2
      · have h := hr false (by simp [h1, h2])
        exact put_case4 w hx hl (by omega) (by omega) _ h.1 h.2
set_option maxHeartbeats 2000000 in
theorem orl_row {b1 b2 N V M O : Nat} {v u : Value} (w : World) (hx : Ints b1 w v (intsOf N V)) (hN : N ≤ 65536) (hy : Ints b2 w u (intsOf M O)) (hO : O < 2 ^ M) :
    Calls Tryd.prog 47 #[v, .int .i64 (N : Int), u] w (ListNew (intsOf N (orV N V O)) w) := by
  rw [← or_ints hO]
  obtain ⟨p, c, rfl, hl, hc⟩ := hy.open_
  have HC := Lib.hid hc
  have HX := Lib.hid (hx.mono (Nat.zero_le _))
  have HS : Hid (∀ k, k < (intsOf M O).length → addV N V ((intsOf M O).take (k + 1)) = setV N (addV N V ((intsOf M O).take k)) ((intsOf M O).getD k 0) true) := Lib.hid fun k hk => by
    unfold addV
    rw [mem_take_succ hk, List.foldl_append]; rfl
  have HF0 : Hid (addV N V ((intsOf M O).take (intsOf M O).length) = addV N V (intsOf M O)) := Lib.hid (by rw [List.take_length])
  have HB0 := Lib.hid (Below.refl w.heap.size w)
  clear hc hx hy
  generalize intsOf M O = ys at HC HS HF0 hl ⊢
  go_enter Tryd.func47, Tryd.ntmps47
  go_wp2_with fail
  go_loopw [0, 11] (fun s0 s11 wr => ∃ k : Nat, s11 = .int .i64 k ∧ k ≤ ys.length ∧ Hid (Ints 0 wr s0 (intsOf N (addV N V (ys.take k)))) ∧ Below w.heap.size w wr) (fun _ s11 _ => ys.length - (intOf s11).toNat)
  case atStart => exact ⟨0, rfl, Nat.zero_le _, HX, HB0.out⟩
  case round =>
    obtain ⟨k, rfl, hk, HI, hb⟩ := hrel
    by_cases hlt : k < ys.length
    · obtain ⟨g', o', rfl, _, hg, hcell⟩ := HC.out k hlt
      have hcell := (hb.cell (p := ⟨g', o' + k, none⟩) hg).trans hcell
      have HE := Lib.hid (HS.out k hlt)
      have HP := Lib.hid (put_row (i := ys.getD k 0) (on := true) wr HI.out hN)
      have HB := Lib.hid hb
      clear hb HI
      generalize ys.getD k 0 = x at hcell HE HP
      go_wp2_with fail
      refine (HP.out).mono ?_
      rintro e w2 ⟨⟨v2, rfl, hv⟩, hb2⟩
      have HV := Lib.hid hv
      have HB2 := Lib.hid (HB.out.trans (hb2.mono HB.out.size))
      clear hv hb2 HP
      go_wp2_with fail
      go_roundw
      case rel => exact ⟨k + 1, by go_num, by omega, by rw [HE.out]; exact HV, HB2.out⟩
      case measure => simp [intOf]; omega
    · have e : k = ys.length := by omega
      subst e
      rw [HF0.out] at HI
      have HB := Lib.hid hb
      clear hb
      go_wp2
      go_ret
      exact ⟨⟨_, rfl, HI.out⟩, HB.out⟩
end Go.Proofs.YtoakpmbiplmpbaaDoor.Bits
