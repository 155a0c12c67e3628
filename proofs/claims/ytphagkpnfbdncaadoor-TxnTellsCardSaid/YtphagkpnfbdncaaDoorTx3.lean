/-
  Contracts of txn's Touched, of the document's put and Keys. Not a statement of the seat.
-/
import Derived.Test.YtphagkpnfbdncaaDoorTx2
namespace Go.Proofs.YtphagkpnfbdncaaDoor.Tx
open Go.ChangeShapes Go.WideShapes Go.ChangeAt Go.RowKit Base F Lst Go.Sort
set_option maxRecDepth 100000 in
theorem touched_any {base : Nat} {s : Value} {l : List Opr} (id : Int) (d : Bool) (w : World) (h : Oprs base w s l) (hl : l.length ≤ 100000) : Calls Tryd.prog 13 #[.agg #[.int .i64 id, .bool d, s]] w (OwnNew (keysO l) w) := by
  have HK : Hid (∀ o, Calls Tryd.prog 31 #[s] (w.alloc o) fun e w' => ∃ v, e = .returned v ∧ OwnNew (keysO l) w (.returned v) w') := Lib.hid fun o => (keysOf_any (w.alloc o) (h.below ((Below.refl _ _).alloc (Nat.le_refl _) _)) hl).mono fun e w' ⟨v, h1, h2, h3⟩ => ⟨v, h1, v, rfl, by
    refine ⟨h2.1, ?_⟩
    rcases h2.2 with hn | ⟨g, cap, cur, hv, hB, rest⟩
    · exact .inl hn
    · exact .inr ⟨g, cap, cur, hv, Nat.le_trans (by simp) hB, rest⟩, (Aft.one o).trans h3⟩
  generalize OwnNew (keysO l) w = Post at HK ⊢
  clear h
  go_enter Tryd.func13, Tryd.ntmps13
  go_wp2_with (go_at_call 31; refine (HK.out _).mono ?_; rintro e w1 ⟨v, rfl, h1⟩; have H1 := Lib.hid h1; clear h1)
  exact H1.out
set_option maxRecDepth 100000 in
set_option maxHeartbeats 1000000 in
theorem rput_any {base : Nat} {v : Value} {xs : List Int} (n : Int) (w : World) (h : Ints base w v xs) (hl : xs.length ≤ 100000) : Calls Tryd.prog 32 #[v, .int .i64 n] w (OwnNew (putF n xs) w) := by
  obtain ⟨p, c, rfl, _, hc⟩ := h.open_
  have HC := Lib.hid hc
  have HE : Hid (∀ v1 w', Way w w' v1 (putF n xs) → OwnNew (putF n xs) w (.returned v1) w') := Lib.hid fun v1 w' h1 => ⟨v1, rfl, h1.1, h1.2⟩
  clear h hc
  generalize OwnNew (putF n xs) w = Post at HE ⊢
  go_enter Tryd.func32, Tryd.ntmps32
  go_wp2
  go_loopw [5, 6, 11] (fun s5 s6 s11 wr => ∃ (k : Nat) (b : Bool) (zs : List Int), s11 = .int .i64 k ∧ s6 = .bool b ∧ k ≤ xs.length ∧ zs.length ≤ 2 * k ∧ Hid (Way w wr s5 zs) ∧ Hid (zs ++ goF n b (xs.drop k) = putF n xs)) (fun _ _ s11 _ => xs.length - (intOf s11).toNat)
  case atStart => exact ⟨0, false, [], rfl, rfl, Nat.zero_le _, by simp, Lib.hid Way.nil, Lib.hid (by simp [goF])⟩
  case round =>
    obtain ⟨k, b, zs, rfl, rfl, hk, hz, HW, HG⟩ := hrel
    by_cases hlt : k < xs.length
    · obtain ⟨g', o', rfl, _, hg', hcell0⟩ := HC.out k hlt
      have hcell := HW.out.2.cell hg' hcell0
      have HD : Hid (xs.drop k = xs.getD k 0 :: xs.drop (k + 1)) := Lib.hid (drop_cons xs 0 k hlt)
      clear hcell0
      generalize xs.getD k 0 = x at hcell HD
      rcases Int.lt_trichotomy x n with hx | hx | hx
      · have h1 : ¬ n ≤ x := by omega
        have hne : (x != n) = true := by rw [bne_iff_ne]; omega
        have HN : Hid ((zs ++ [x]) ++ goF n b (xs.drop (k + 1)) = putF n xs) := Lib.hid (by
          rw [← HG.out, HD.out, List.append_assoc, List.singleton_append]
          cases b with
          | false => rw [goF_lt hx]
          | true => rw [goF_keep (by omega)])
        clear HG HD
        cases b with
        | false =>
          go_wp2_with (at_builtin; refine append_int rfl (.tmp 29) (.tmp 31) rfl HW.out.2 HW.out.1 rfl rfl (by omega) ?_; intro v2 w2 h1 h2; have H3 : Hid (Way w w2 v2 (zs ++ [x])) := Lib.hid ⟨h1, h2⟩; clear h1 h2)
          go_roundw
          case rel => exact ⟨k + 1, false, zs ++ [x], by go_num, rfl, by omega, by simp; omega, H3, HN⟩
          case measure => simp [intOf]; omega
        | true =>
          go_wp2_with (at_builtin; refine append_int rfl (.tmp 29) (.tmp 31) rfl HW.out.2 HW.out.1 rfl rfl (by omega) ?_; intro v2 w2 h1 h2; have H3 : Hid (Way w w2 v2 (zs ++ [x])) := Lib.hid ⟨h1, h2⟩; clear h1 h2)
          go_roundw
          case rel => exact ⟨k + 1, true, zs ++ [x], by go_num, rfl, by omega, by simp; omega, H3, HN⟩
          case measure => simp [intOf]; omega
      · subst hx
        cases b with
        | false =>
          have HN : Hid ((zs ++ [x]) ++ goF x true (xs.drop (k + 1)) = putF x xs) := Lib.hid (by rw [← HG.out, HD.out, List.append_assoc, List.singleton_append, goF_eq])
          clear HG HD
          go_wp2_with (at_builtin; refine append_int rfl (.tmp 22) (.tmp 24) rfl HW.out.2 HW.out.1 rfl rfl (by omega) ?_; intro v2 w2 h1 h2; have H3 : Hid (Way w w2 v2 (zs ++ [x])) := Lib.hid ⟨h1, h2⟩; clear h1 h2)
          go_roundw
          case rel => exact ⟨k + 1, true, zs ++ [x], by go_num, rfl, by omega, by simp; omega, H3, HN⟩
          case measure => simp [intOf]; omega
        | true =>
          have HN : Hid (zs ++ goF x true (xs.drop (k + 1)) = putF x xs) := Lib.hid (by rw [← HG.out, HD.out, goF_skip])
          clear HG HD
          go_wp2
          go_roundw
          case rel => exact ⟨k + 1, true, zs, by go_num, rfl, by omega, by omega, HW, HN⟩
          case measure => simp [intOf]; omega
      · have h1 : n ≤ x := by omega
        have hne : (x != n) = true := by rw [bne_iff_ne]; omega
        cases b with
        | false =>
          have HN : Hid ((zs ++ [n] ++ [x]) ++ goF n true (xs.drop (k + 1)) = putF n xs) := Lib.hid (by rw [← HG.out, HD.out, goF_gt hx]; simp)
          clear HG HD
          go_wp2_with (first
            | (at_builtin; refine append_int rfl (.tmp 22) (.tmp 24) rfl HW.out.2 HW.out.1 rfl rfl (by omega) ?_; intro v2 w2 h1 h2; have H3 : Hid (Way w w2 v2 (zs ++ [n])) := Lib.hid ⟨h1, h2⟩; clear h1 h2)
            | (at_builtin; refine append_int rfl (.tmp 29) (.tmp 31) rfl H3.out.2 H3.out.1 rfl rfl (by simp; omega) ?_; intro v3 w3 h1 h2; have H4 : Hid (Way w w3 v3 (zs ++ [n] ++ [x])) := Lib.hid ⟨h1, h2⟩; clear h1 h2))
          go_roundw
          case rel => exact ⟨k + 1, true, zs ++ [n] ++ [x], by go_num, rfl, by omega, by simp; omega, H4, HN⟩
          case measure => simp [intOf]; omega
        | true =>
          have HN : Hid ((zs ++ [x]) ++ goF n true (xs.drop (k + 1)) = putF n xs) := Lib.hid (by rw [← HG.out, HD.out, goF_keep (by omega), List.append_assoc]; rfl)
          clear HG HD
          go_wp2_with (at_builtin; refine append_int rfl (.tmp 29) (.tmp 31) rfl HW.out.2 HW.out.1 rfl rfl (by omega) ?_; intro v2 w2 h1 h2; have H3 : Hid (Way w w2 v2 (zs ++ [x])) := Lib.hid ⟨h1, h2⟩; clear h1 h2)
          go_roundw
          case rel => exact ⟨k + 1, true, zs ++ [x], by go_num, rfl, by omega, by simp; omega, H3, HN⟩
          case measure => simp [intOf]; omega
    · have hd : xs.drop k = [] := List.drop_eq_nil_of_le (by omega)
      cases b with
      | false =>
        have HN : Hid (zs ++ [n] = putF n xs) := Lib.hid (by have := HG.out; rw [hd] at this; exact this)
        clear HG hd
        go_wp2_with (at_builtin; refine append_int rfl (.tmp 36) (.tmp 38) rfl HW.out.2 HW.out.1 rfl rfl (by omega) ?_; intro v2 w2 h1 h2; have H3 : Hid (Way w w2 v2 (zs ++ [n])) := Lib.hid ⟨h1, h2⟩; clear h1 h2)
        exact HE.out _ _ (by rw [← HN.out]; exact H3.out)
      | true =>
        have HN : Hid (zs = putF n xs) := Lib.hid (by have := HG.out; rw [hd] at this; simpa [goF] using this)
        clear HG hd
        go_wp2
        exact HE.out _ _ (by rw [← HN.out]; exact HW.out)
/-- Those that are written alone, or all. -/
def tch (b : Bool) (l : List Opr) : List Opr := if b then l else bareL l
theorem tch_snoc (b : Bool) (l : List Opr) (o : Opr) : tch b (l ++ [o]) = tch b l ++ (if b = true ∨ o.rd = false then [o] else []) := by
  unfold tch
  cases b with
  | true => simp
  | false => rw [if_neg (by simp), if_neg (by simp), bareL_snoc]; cases o.rd <;> simp
theorem tch_len (b : Bool) (l : List Opr) : (tch b l).length ≤ l.length := by unfold tch; cases b; exact bareL_len l; exact Nat.le_refl _
set_option maxRecDepth 100000 in
set_option maxHeartbeats 1000000 in
theorem rkeys_any {base : Nat} {s : Value} {l : List Opr} (id : Int) (d b : Bool) (w : World) (h : Oprs base w s l) (hl : l.length ≤ 100000) : Calls Tryd.prog 12 #[.agg #[.int .i64 id, .bool d, s], .bool b] w (OwnNew (keysO (tch b l)) w) := by
  obtain ⟨p, c, rfl, _, hc⟩ := h.open_
  have HC := Lib.hid hc
  have HE : Hid (∀ v w', Way w w' v (keysO (tch b l)) → OwnNew (keysO (tch b l)) w (.returned v) w') := Lib.hid fun v w' h1 => ⟨v, rfl, h1⟩
  clear h hc
  generalize OwnNew (keysO (tch b l)) w = Post at HE ⊢
  go_enter Tryd.func12, Tryd.ntmps12
  go_wp2
  go_loopw [5, 11] (fun s5 s11 wr => ∃ (k : Nat) (zs : List Int), s11 = .int .i64 k ∧ k ≤ l.length ∧ zs.length ≤ k ∧ Hid (zs = keysO (tch b (l.take k))) ∧ Hid (Way w wr s5 zs)) (fun _ s11 _ => l.length - (intOf s11).toNat)
  case atStart => exact ⟨0, [], rfl, Nat.zero_le _, Nat.le_refl _, Lib.hid (by cases b <;> rfl), Lib.hid ⟨OwnI.nil _ _, Aft.one _⟩⟩
  case round =>
    obtain ⟨k, zs, rfl, hk, hzl, HZ, HW⟩ := hrel
    by_cases hlt : k < l.length
    · obtain ⟨g', o', rfl, _, hg', c0, c1, c2, c3⟩ := HC.out k hlt
      have d0 := HW.out.2.cell hg' c0
      have d1 := HW.out.2.cell hg' c1
      have d2 := HW.out.2.cell hg' c2
      have d3 := HW.out.2.cell hg' c3
      have HS : Hid (keysO (tch b (l.take (k + 1))) = if b = true ∨ (l.getD k Opr.zero).rd = false then putF (l.getD k Opr.zero).k zs else zs) := Lib.hid (by
        rw [take_snoc l Opr.zero k hlt, tch_snoc, HZ.out]
        split
        · unfold keysO; rw [List.map_append]; exact keysL_snoc _ _
        · rw [List.append_nil])
      have HW2 : Hid (∀ o, Way w (wr.alloc o) u5 zs) := Lib.hid fun o => HW.out.lay o
      have HPUT : Hid (∀ x o, Calls Tryd.prog 32 #[u5, .int .i64 x] (wr.alloc o) fun e w' => ∃ v, e = .returned v ∧ Way w w' v (putF x zs)) := Lib.hid fun x o => (rput_any x (wr.alloc o) ((HW2.out o).1.ints (by omega)) (by omega)).mono fun e w' ⟨v, h1, h2, h3⟩ => ⟨v, h1, by
        refine ⟨h2.1, ?_⟩
        rcases h2.2 with hn | ⟨g, cap, cur, hv, hB, rest⟩
        · exact .inl hn
        · exact .inr ⟨g, cap, cur, hv, Nat.le_trans (HW2.out o).2.size hB, rest⟩, (HW2.out o).2.trans h3⟩
      clear c0 c1 c2 c3 HZ
      generalize l.getD k Opr.zero = x at d0 d1 d2 d3 HS
      by_cases hx : b = true ∨ x.rd = false
      · have HZ2 : Hid (keysO (tch b (l.take (k + 1))) = putF x.k zs) := Lib.hid (by rw [HS.out, if_pos hx])
        have hpl := putF_len x.k zs
        cases b with
        | true =>
          clear HS hx
          go_wp2_with (go_at_call 32; refine (HPUT.out _ _).mono ?_; rintro e w2 ⟨v2, rfl, h2⟩; have H2 := Lib.hid h2; clear h2)
          go_roundw
          case rel => exact ⟨k + 1, putF x.k zs, by go_num, by omega, by omega, Lib.hid HZ2.out.symm, H2⟩
          case measure => simp [intOf]; omega
        | false =>
          have hr : x.rd = false := by rcases hx with hx | hx; cases hx; exact hx
          rw [hr] at d0
          clear HS hx hr
          go_wp2_with (go_at_call 32; refine (HPUT.out _ _).mono ?_; rintro e w2 ⟨v2, rfl, h2⟩; have H2 := Lib.hid h2; clear h2)
          go_roundw
          case rel => exact ⟨k + 1, putF x.k zs, by go_num, by omega, by omega, Lib.hid HZ2.out.symm, H2⟩
          case measure => simp [intOf]; omega
      · have HZ2 : Hid (keysO (tch b (l.take (k + 1))) = zs) := Lib.hid (by rw [HS.out, if_neg hx])
        cases b with
        | true => exact absurd (.inl rfl) hx
        | false =>
          have hr : x.rd = true := by cases h : x.rd with
            | true => rfl
            | false => exact absurd (.inr h) hx
          rw [hr] at d0
          clear HS hx hr HPUT
          go_wp2
          go_roundw
          case rel => exact ⟨k + 1, zs, by go_num, by omega, by omega, Lib.hid HZ2.out.symm, Lib.hid (HW2.out _)⟩
          case measure => simp [intOf]; omega
    · have HZ2 : Hid (zs = keysO (tch b l)) := Lib.hid (by rw [HZ.out, List.take_of_length_le (by omega)])
      clear HZ
      go_wp2
      exact HE.out _ _ (by rw [← HZ2.out]; exact HW.out)
end Go.Proofs.YtphagkpnfbdncaaDoor.Tx
