/-
  Contracts of the document's put, Put (chapter 10) and In (chapter 1). Not a statement of the seat.
-/
import Derived.Test.YtpgfkggfgkafjaaRfM
import Derived.Test.YtpgfkggfgkafjaaHead1
import Derived.Test.YtpgfkggfgkafjaaLstAp
namespace Go.Proofs.Ytpgfkggfgkafjaa.Rf
open Go.ChangeShapes Go.WideShapes Go.ChangeAt Go.RowKit Base Lst
open Go.Proofs.Ytpgfkggfgkafjaa.Tx (Aft Aft.refl Aft.lay Aft.trans Aft.one Aft.cell BoolNew)
def OwnNew (xs : List Int) (w : World) (e : Ending) (w' : World) : Prop := ∃ v, e = .returned v ∧ OwnI w.heap.size w' v xs ∧ Aft w w'
/-- Lists of the call's own on their way. -/
def Way (w wr : World) (v : Value) (zs : List Int) : Prop := OwnI w.heap.size wr v zs ∧ Aft w wr
theorem Way.nil {w : World} : Way w w (.slice none 0 0) [] := ⟨OwnI.nil _ _, Aft.refl _⟩
theorem Way.lay {w wr : World} {v : Value} {zs : List Int} (h : Way w wr v zs) (o : Obj) : Way w (wr.alloc o) v zs := ⟨h.1.lay rfl o, h.2.lay o⟩
set_option maxRecDepth 100000 in
set_option maxHeartbeats 1000000 in
theorem rput_any {base : Nat} {v : Value} {xs : List Int} (n : Int) (w : World) (h : Ints base w v xs) (hl : xs.length ≤ 100000) : Calls Try.prog 52 #[v, .int .i64 n] w (OwnNew (putF n xs) w) := by
  obtain ⟨p, c, rfl, _, hc⟩ := h.open_
  have HC := Lib.hid hc
  have HE : Hid (∀ v1 w', Way w w' v1 (putF n xs) → OwnNew (putF n xs) w (.returned v1) w') := Lib.hid fun v1 w' h1 => ⟨v1, rfl, h1.1, h1.2⟩
  clear h hc
  generalize OwnNew (putF n xs) w = Post at HE ⊢
  go_enter Try.func52, Try.ntmps52
  go_wp2
  go_loopw [5, 6, 11] (fun s5 s6 s11 wr => ∃ (k : Nat) (b : Bool) (zs : List Int), s11 = .int .i64 k ∧ s6 = .bool b ∧ k ≤ xs.length ∧ zs.length ≤ 2 * k ∧ Hid (Way w wr s5 zs) ∧ Hid (zs ++ goF n b (xs.drop k) = putF n xs)) (fun _ _ s11 _ => xs.length - (intOf s11).toNat)
  case atStart => exact ⟨0, false, [], rfl, rfl, Nat.zero_le _, by simp, Lib.hid Way.nil, Lib.hid (by simp [goF])⟩
  case round =>
    obtain ⟨k, b, zs, rfl, rfl, hk, hz, HW, HG⟩ := hrel
    by_cases hlt : k < xs.length
    · obtain ⟨g', o', rfl, _, hg', hcell0⟩ := HC.out k hlt
      have hcell := HW.out.2.cell hg' hcell0
      have HD : Hid (xs.drop k = xs.getD k 0 :: xs.drop (k + 1)) := Lib.hid (drop_cons xs 0 k hlt)
      clear hcell0
      generalize xs.getD k 0 = x at hcell HD
      rcases Int.lt_trichotomy x n with hx | hx | hx
      · have h1 : ¬ n ≤ x := by omega
        have hne : (x != n) = true := by rw [bne_iff_ne]; omega
        have HN : Hid ((zs ++ [x]) ++ goF n b (xs.drop (k + 1)) = putF n xs) := Lib.hid (by
          rw [← HG.out, HD.out, List.append_assoc, List.singleton_append]
          cases b with
          | false => rw [goF_lt hx]
          | true => rw [goF_keep (by omega)])
        clear HG HD
        cases b with
        | false =>
          go_wp2_with (at_builtin; refine append_int rfl (.tmp 29) (.tmp 31) rfl HW.out.2 HW.out.1 rfl rfl (by omega) ?_; intro v2 w2 h1 h2; have H3 : Hid (Way w w2 v2 (zs ++ [x])) := Lib.hid ⟨h1, h2⟩; clear h1 h2)
          go_roundw
          case rel => exact ⟨k + 1, false, zs ++ [x], by go_num, rfl, by omega, by simp; omega, H3, HN⟩
          case measure => simp [intOf]; omega
        | true =>
          go_wp2_with (at_builtin; refine append_int rfl (.tmp 29) (.tmp 31) rfl HW.out.2 HW.out.1 rfl rfl (by omega) ?_; intro v2 w2 h1 h2; have H3 : Hid (Way w w2 v2 (zs ++ [x])) := Lib.hid ⟨h1, h2⟩; clear h1 h2)
          go_roundw
          case rel => exact ⟨k + 1, true, zs ++ [x], by go_num, rfl, by omega, by simp; omega, H3, HN⟩
          case measure => simp [intOf]; omega
      · subst hx
        cases b with
        | false =>
          have HN : Hid ((zs ++ [x]) ++ goF x true (xs.drop (k + 1)) = putF x xs) := Lib.hid (by rw [← HG.out, HD.out, List.append_assoc, List.singleton_append, goF_eq])
          clear HG HD
          go_wp2_with (at_builtin; refine append_int rfl (.tmp 22) (.tmp 24) rfl HW.out.2 HW.out.1 rfl rfl (by omega) ?_; intro v2 w2 h1 h2; have H3 : Hid (Way w w2 v2 (zs ++ [x])) := Lib.hid ⟨h1, h2⟩; clear h1 h2)
          go_roundw
          case rel => exact ⟨k + 1, true, zs ++ [x], by go_num, rfl, by omega, by simp; omega, H3, HN⟩
          case measure => simp [intOf]; omega
        | true =>
          have HN : Hid (zs ++ goF x true (xs.drop (k + 1)) = putF x xs) := Lib.hid (by rw [← HG.out, HD.out, goF_skip])
          clear HG HD
          go_wp2
          go_roundw
          case rel => exact ⟨k + 1, true, zs, by go_num, rfl, by omega, by omega, HW, HN⟩
          case measure => simp [intOf]; omega
      · have h1 : n ≤ x := by omega
        have hne : (x != n) = true := by rw [bne_iff_ne]; omega
        cases b with
        | false =>
          have HN : Hid ((zs ++ [n] ++ [x]) ++ goF n true (xs.drop (k + 1)) = putF n xs) := Lib.hid (by rw [← HG.out, HD.out, goF_gt hx]; simp)
          clear HG HD
          go_wp2_with (first
            | (at_builtin; refine append_int rfl (.tmp 22) (.tmp 24) rfl HW.out.2 HW.out.1 rfl rfl (by omega) ?_; intro v2 w2 h1 h2; have H3 : Hid (Way w w2 v2 (zs ++ [n])) := Lib.hid ⟨h1, h2⟩; clear h1 h2)
            | (at_builtin; refine append_int rfl (.tmp 29) (.tmp 31) rfl H3.out.2 H3.out.1 rfl rfl (by simp; omega) ?_; intro v3 w3 h1 h2; have H4 : Hid (Way w w3 v3 (zs ++ [n] ++ [x])) := Lib.hid ⟨h1, h2⟩; clear h1 h2))
          go_roundw
          case rel => exact ⟨k + 1, true, zs ++ [n] ++ [x], by go_num, rfl, by omega, by simp; omega, H4, HN⟩
          case measure => simp [intOf]; omega
        | true =>
          have HN : Hid ((zs ++ [x]) ++ goF n true (xs.drop (k + 1)) = putF n xs) := Lib.hid (by rw [← HG.out, HD.out, goF_keep (by omega), List.append_assoc]; rfl)
          clear HG HD
          go_wp2_with (at_builtin; refine append_int rfl (.tmp 29) (.tmp 31) rfl HW.out.2 HW.out.1 rfl rfl (by omega) ?_; intro v2 w2 h1 h2; have H3 : Hid (Way w w2 v2 (zs ++ [x])) := Lib.hid ⟨h1, h2⟩; clear h1 h2)
          go_roundw
          case rel => exact ⟨k + 1, true, zs ++ [x], by go_num, rfl, by omega, by simp; omega, H3, HN⟩
          case measure => simp [intOf]; omega
    · have hd : xs.drop k = [] := List.drop_eq_nil_of_le (by omega)
      cases b with
      | false =>
        have HN : Hid (zs ++ [n] = putF n xs) := Lib.hid (by have := HG.out; rw [hd] at this; exact this)
        clear HG hd
        go_wp2_with (at_builtin; refine append_int rfl (.tmp 36) (.tmp 38) rfl HW.out.2 HW.out.1 rfl rfl (by omega) ?_; intro v2 w2 h1 h2; have H3 : Hid (Way w w2 v2 (zs ++ [n])) := Lib.hid ⟨h1, h2⟩; clear h1 h2)
        exact HE.out _ _ (by rw [← HN.out]; exact H3.out)
      | true =>
        have HN : Hid (zs = putF n xs) := Lib.hid (by have := HG.out; rw [hd] at this; simpa [goF] using this)
        clear HG hd
        go_wp2
        exact HE.out _ _ (by rw [← HN.out]; exact HW.out)
set_option maxRecDepth 100000 in
theorem rPut_any {base : Nat} {v : Value} {xs : List Int} (n : Int) (w : World) (h : Ints base w v xs) (hl : xs.length ≤ 100000) : Calls Try.prog 39 #[v, .int .i64 n] w (OwnNew (putF n xs) w) := by
  have HP : Hid (Calls Try.prog 52 #[v, .int .i64 n] w fun e w' => ∃ v1, e = .returned v1 ∧ OwnNew (putF n xs) w (.returned v1) w') := Lib.hid ((rput_any n w h hl).mono fun e w' ⟨v1, h1, h2, h3⟩ => ⟨v1, h1, v1, rfl, h2, h3⟩)
  obtain ⟨p, c, rfl, _⟩ := h.open_
  generalize OwnNew (putF n xs) w = Post at HP ⊢
  generalize xs.length = m at *
  clear h
  go_enter Try.func39, Try.ntmps39
  go_wp2_with fail
  refine HP.out.mono ?_
  rintro e w2 ⟨v1, rfl, h1⟩
  have HR := Lib.hid h1
  clear h1 HP
  go_wp2_with fail
  exact HR.out
set_option maxHeartbeats 1000000 in
theorem in_any {base : Nat} {v : Value} {xs : List Int} (i : Int) (w : World) (h : Lst.Ints base w v xs) : Calls Try.prog 26 #[v, .int .i64 i] w fun e w' => e = .returned (.bool (decide (i ∈ xs))) ∧ w = w' := by
  obtain ⟨p, c, rfl, hl, hc⟩ := h.open_
  have HC := Lib.hid hc
  have HY : Hid (∀ k, k < xs.length → xs.getD k 0 = i → decide (i ∈ xs) = true) := Lib.hid fun k hk e => by
    rw [decide_eq_true_iff, ← e]
    simp [hk]
  have HN : Hid ((∀ j, j < xs.length → xs.getD j 0 ≠ i) → decide (i ∈ xs) = false) := Lib.hid fun h => by
    rw [decide_eq_false_iff_not]
    intro hm
    obtain ⟨j, hj, e⟩ := List.mem_iff_getElem.1 hm
    exact h j hj (by simpa [hj] using e)
  clear hc h
  generalize decide (i ∈ xs) = r at HY HN ⊢
  go_enter Try.func26, Try.ntmps26
  go_wp2_with fail
  go_loopw [9] (fun s9 wr => ∃ k : Nat, s9 = .int .i64 k ∧ k ≤ xs.length ∧ wr = w ∧ Hid (∀ j, j < k → xs.getD j 0 ≠ i)) (fun s9 _ => xs.length - (intOf s9).toNat)
  case atStart => exact ⟨0, rfl, Nat.zero_le _, rfl, Lib.hid fun j hj => absurd hj (by omega)⟩
  case round =>
    obtain ⟨k, rfl, hk, rfl, HK⟩ := hrel
    by_cases hlt : k < xs.length
    · obtain ⟨g', o', rfl, _, _, hcell⟩ := HC.out k hlt
      have HYK := Lib.hid (HY.out k hlt)
      have HKK : Hid (xs.getD k 0 ≠ i → ∀ j, j < k + 1 → xs.getD j 0 ≠ i) := Lib.hid fun h j hj => by
        by_cases e : j = k
        · rw [e]; exact h
        · exact HK.out j (by omega)
      generalize xs.getD k 0 = x at hcell HYK HKK
      by_cases hx : x = i
      · have hr := HYK.out hx
        subst hx
        have HR := Lib.hid hr
        clear HKK HK HYK hr
        go_wp2
        go_ret
        exact ⟨ret_bool HR.out.symm, rfl⟩
      · have HK2 := Lib.hid (HKK.out hx)
        have hd : (x == i) = false := by rw [beq_eq_false_iff_ne]; exact hx
        clear HKK HK HYK
        go_wp2_with fail
        go_roundw
        case rel => exact ⟨k + 1, by go_num, by omega, trivial, HK2⟩
        case measure => simp [intOf]; omega
    · have hr := HN.out (fun j hj => HK.out j (by omega))
      have HR := Lib.hid hr
      clear HK HY HN hr
      go_wp2
      go_ret
      exact ⟨ret_bool HR.out.symm, rfl⟩
end Go.Proofs.Ytpgfkggfgkafjaa.Rf
