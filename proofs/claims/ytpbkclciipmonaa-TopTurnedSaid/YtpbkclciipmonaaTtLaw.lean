/-
  The law of TopTurned. Not a statement of the seat.
-/
import Derived.Test.YtpbkclciipmonaaTtBeg
import Derived.Test.YtpbkclciipmonaaTtSt
import Derived.Test.YtpbkclciipmonaaPsList
import Derived.Test.YtpbkclciipmonaaLstSame
namespace Go.Proofs.Ytpbkclciipmonaa.F
open Go.ChangeShapes Go.WideShapes Go.ChangeAt Go.RowKit Base
theorem tk_snoc {xs : List Int} {i : Nat} (h : i < xs.length) : xs.take (i + 1) = xs.take i ++ [xs.getD i 0] := by
  rw [List.take_add_one, List.getElem?_eq_getElem h, List.getD_eq_getElem?_getD, List.getElem?_eq_getElem h]; rfl
/-- Between two rounds. -/
def TL (w1 W : World) (pa : Option Addr) (qb qg sb : Nat) (b5 : Nat) (xs : List Int) (i : Nat) : Prop :=
  ∃ (so o : Option Nat) (zs : List Cel) (root : Int) (T : Tre), TT w1 W pa o zs qb qg sb so xs.length (xs.take i) (xs.take i) [(b5, boxS (.pointer pa) root)] ∧ Tr zs T root ∧ K0 T ∧ T.vals = (xs.take i).reverse ∧ zs.length ≤ 200 * i
theorem insAt_k0 {T : Tre} (i : Nat) (x : Int) (h : K0 T) : K0 (Tre.insAt i x T) := chg_k0 (f := fun _ => Tre.node .nil 0 x .nil) (fun _ _ => ⟨rfl, trivial, trivial⟩) T _ h
set_option maxRecDepth 100000 in
set_option maxHeartbeats 16000000 in
theorem topturned (p : Option Addr) (c : Nat) (xs : List Int) (w : World) (hx : Lst.Ints 0 w (.slice p xs.length c) xs) (hbn : ∀ x ∈ xs, -9223372036854775808 ≤ x ∧ x ≤ 9223372036854775807) :
    Calls Try.prog 6 #[.slice p xs.length c] w fun e w' => e = .returned (.bool true) ∧ Below w.heap.size w w' := by
  have HX := Lib.hid hx
  have HBN := Lib.hid hbn
  clear hx hbn
  by_cases hl : 60 < xs.length
  · have hl' : (60 : Int) < (xs.length : Int) := by omega
    go_enter Try.func6, Try.ntmps6
    go_wp2_with fail
    refine (begins w).mono ?_
    rintro e w1 ⟨rfl, hb⟩
    go_wp2_with fail
    go_ret
    exact ⟨rfl, hb⟩
  have hl' : ¬ (60 : Int) < (xs.length : Int) := by omega
  have HL : Hid (xs.length ≤ 60) := Lib.hid (by omega)
  clear hl
  go_enter Try.func6, Try.ntmps6
  go_wp2_with fail
  refine (begins w).mono ?_
  rintro e w1 ⟨rfl, hb⟩
  have HB := Lib.hid hb
  clear hb
  go_wp2_with fail
  refine (fqnew (xs.length : Int) w1).mono ?_
  intro e w2 hq
  obtain ⟨qb, qg, rfl, hq1, hq2, hq3, hq4⟩ := hq
  rw [show roomOf (xs.length : Int) = xs.length by have := HL.out; unfold roomOf; omega] at hq1
  have HQ := Lib.hid (And.intro hq1 (And.intro hq2 (And.intro hq3 hq4)))
  clear hq1 hq2 hq3 hq4
  go_wp2_with fail
  refine (fsnew (xs.length : Int) w2).mono ?_
  intro e w3 hs
  obtain ⟨rfl, hs1, hs2⟩ := hs
  rw [show roomOf (xs.length : Int) = xs.length by have := HL.out; unfold roomOf; omega] at hs1
  have HSS := Lib.hid (And.intro hs1 hs2)
  clear hs1 hs2
  go_wp2_with fail
  refine (arnew_any 65536 w3).mono ?_
  rintro e w4 ⟨rfl, hA, hb4⟩
  have hav := ArV.of hA
  rw [show roomOf 65536 = 65536 by unfold roomOf; omega] at hav
  obtain ⟨pa, hpa⟩ : ∃ pa, pa = some (⟨w3.heap.size, 0, none⟩ : Addr) := ⟨_, rfl⟩
  have HA4 : Hid (ArV w4 (.pointer pa) none 65536 []) := Lib.hid (by rw [hpa]; exact hav)
  have HB4 := Lib.hid hb4
  have HPA := Lib.hid hpa
  clear hA hav hb4
  go_wp2_with fail
  rw [← hpa]
  clear hpa
  refine (psnew HA4.out).mono ?_
  rintro e w5 ⟨rfl, hb5⟩
  have HSB : Hid (Below w2.heap.size w2 w3) := Lib.hid HSS.out.2
  have HSA := Lib.hid HSS.out.1
  obtain ⟨sb, hsb⟩ : ∃ sb, sb = w2.heap.size := ⟨_, rfl⟩
  rw [← hsb] at HSA ⊢
  clear HSS
  have HT5 : Hid (TT w1 w5 pa none [] qb qg sb none xs.length [] [] []) := Lib.hid (by
    obtain ⟨q1, q2, q3, q4⟩ := HQ.out
    have s1 := HSA.out
    have s2 := HSB.out
    have hl1 := q1.lt
    have hl2 := s1.lt.1
    have h35 : Below w3.heap.size w3 w5 := HB4.out.trans (hb5.mono HB4.out.size)
    have hz3 := s2.size
    have hz1 := q4.size
    refine ⟨(q1.below s2).below h35, s1.below h35, HA4.out.below hb5, (q4.trans (s2.mono q4.size)).trans (h35.mono (Nat.le_trans q4.size s2.size)), fun g k => ?_, fun g k => ?_, ⟨by omega, by omega, by simp, by simp⟩, fun p hp => by cases hp⟩
    · rcases k with k | k
      · rw [HPA.out] at k
        injection k with k; injection k with k; injection k with k
        refine ⟨by omega, fun k2 => ?_⟩
        rcases k2 with (k2 | k2) | k2 | k2
        · omega
        · omega
        · omega
        · cases k2
      · cases k
    · rcases k with (k | k) | k | k
      · omega
      · omega
      · omega
      · cases k)
  have HXS1 : Hid (∀ X, Below w1.heap.size w1 X → Lst.Ints 0 X (.slice p xs.length c) xs) := Lib.hid fun X hX => HX.out.below (HB.out.trans (hX.mono HB.out.size))
  clear HQ HSA HSB HA4 HB4 HPA hb5 hsb
  obtain ⟨b5, hb5⟩ : ∃ b5, b5 = w5.heap.size := ⟨_, rfl⟩
  have HT6 : Hid (TL w1 (w5.alloc (boxS (.pointer pa) 0)) pa qb qg sb b5 xs 0) := Lib.hid ⟨none, none, [], 0, .nil, by rw [hb5]; exact HT5.out.add _, rfl, trivial, rfl, by simp⟩
  clear HT5
  go_wp2_with fail
  rw [← hb5]
  clear hb5
  go_loopw [31] (fun s31 wr => ∃ i : Nat, s31 = .int .i64 (i : Int) ∧ i ≤ xs.length ∧ Hid (TL w1 wr pa qb qg sb b5 xs i)) (fun s31 _ => xs.length - (intOf s31).toNat)
  case atStart => exact ⟨0, rfl, Nat.zero_le _, HT6⟩
  case round =>
    clear HT6
    obtain ⟨i, rfl, hi, HTL⟩ := hrel
    by_cases hlt : i < xs.length
    · obtain ⟨so, o, zs, root, T, hT, hTr, hK, hV, hz⟩ := HTL.out
      obtain ⟨p', c', hv, _, hk⟩ := (HXS1.out _ hT.2.2.2.1).open_
      obtain ⟨g, off, hp', _, hgl, hcell⟩ := hk i hlt
      have hpe : p = some ⟨g, off, none⟩ := by injection hv with e; rw [e, hp']
      have hxb := HBN.out (xs.getD i 0) (by rw [List.getD_eq_getElem?_getD, List.getElem?_eq_getElem hlt]; exact List.getElem_mem hlt)
      have HTK := Lib.hid (tk_snoc hlt)
      have hsz : T.size = i := by rw [← T.vals_len, hV, List.length_reverse, List.length_take]; omega
      have hhi := T.high_le_size
      have HIN := Lib.hid (psinsert 0 (xs.getD i 0) hxb hT.2.2.1 hTr hK (by have := HL.out; omega) (Nat.zero_le _))
      have HT := Lib.hid hT
      have HTR := Lib.hid (And.intro hTr (And.intro hK (And.intro hV hz)))
      have HSZ : Hid (T.high ≤ i ∧ zs.length ≤ 200 * i ∧ i < xs.length) := Lib.hid ⟨by omega, hz, hlt⟩
      obtain ⟨_, m0, m1⟩ := cellsS (hT.2.2.2.2.2.2.2 (b5, boxS (.pointer pa) root) (by simp)).1
      generalize xs.getD i 0 = x at hcell HTK HIN
      subst hpe
      clear hT hTr hK hV hz hk hp' hv hxb hsz hhi hgl
      have hltI : (i : Int) < (xs.length : Int) := by omega
      go_wp2_with fail
      refine HIN.out.mono ?_
      rintro e w6 ⟨root2, why2, zs2, o2, rfl, hav, hmv, hfr, hM⟩
      obtain ⟨rfl, hP⟩ : why2 = 0 ∧ PutP zs (3 * T.high + 1) (Tre.insAt 0 x T) zs2 root2 := by
        rcases hM with ⟨h, hP⟩ | ⟨_, _, _, hZ⟩
        · exact ⟨h, hP⟩
        · have := HSZ.out; have := HL.out; omega
      have HT7 := Lib.hid ((HT.out.ar hav hmv hfr).add (boxS (.pointer pa) root2))
      have HP := Lib.hid hP
      clear hav hmv hfr hM hP HIN HT m0 m1
      obtain ⟨b8, hb8⟩ : ∃ b8, b8 = w6.heap.size := ⟨_, rfl⟩
      rw [← hb8] at HT7
      unfold boxS at HT7
      go_wp2_with fail
      rw [← hb8]
      clear hb8
      refine (fqpush_ok HT7.out.1 (by rw [List.length_take]; omega) x).mono ?_
      intro e w7 hq
      obtain ⟨rfl, HT8⟩ := HT7.out.q hq
      clear hq HT7
      go_wp2_with fail
      refine (fspush_ok HT8.out.2.1 (by rw [List.length_take]; omega) x).mono ?_
      intro e w8 hs
      obtain ⟨rfl, so2, HT9⟩ := HT8.out.s hs
      clear hs HT8
      obtain ⟨_, n0, n1⟩ := cellsS (HT9.out.2.2.2.2.2.2.2 (b8, boxS (.pointer pa) root2) (by unfold boxS; simp)).1
      have HB5 : Hid (w8.heap[b5]? = some (boxS (.pointer pa) root)) := Lib.hid (HT9.out.2.2.2.2.2.2.2 (b5, boxS (.pointer pa) root) (by unfold boxS; simp)).1
      go_wp2_with (refine wpList_store_seq rfl (.tmp 5) (.tmp 55) rfl b5 pa pa root2 root rfl rfl HB5.out ?_; intro w9 hst; have HST := Lib.hid hst; clear hst)
      have HN : Hid (TL w1 w9 pa qb qg sb b5 xs (i + 1)) := Lib.hid (by
        obtain ⟨h1, h2, h3, h4⟩ := HTR.out
        refine ⟨so2, o2, zs2, root2, Tre.insAt 0 x T, ?_, HP.out.2, insAt_k0 0 x h2, ?_, ?_⟩
        · rw [HTK.out]
          exact HT9.out.store (g := b5) (ob := boxS (.pointer pa) root) (by unfold boxS; simp) HST.out
        · rw [HTK.out, Tre.insAt_vals _ _ _ (Nat.zero_le _), List.reverse_append, h3]
          simp
        · obtain ⟨new, he, hn⟩ := HP.out.1
          rw [he, List.length_append]
          have := HSZ.out
          have := HL.out
          omega)
      go_roundw
      case rel => exact ⟨i + 1, by go_num, hlt, HN⟩
      case measure => simp [intOf]; omega
    · have hie : i = xs.length := by omega
      subst hie
      obtain ⟨so, o, zs, root, T, hT, hTr, hK, hV, hz⟩ := HTL.out
      rw [List.take_length] at hT hV
      have HTX : Hid (∀ X, Below wr.heap.size wr X → TT w1 X pa o zs qb qg sb so xs.length xs xs [(b5, boxS (.pointer pa) root)]) := Lib.hid fun X hX => hT.below hX
      have HTR := Lib.hid hTr
      have HVL := Lib.hid hV
      have HSZ : Hid (T.size = xs.length) := Lib.hid (by rw [← T.vals_len, hV, List.length_reverse])
      have HLN : Hid (xs.length ≤ 60 ∧ T.size < 65536) := Lib.hid ⟨HL.out, by have := HSZ.out; have := HL.out; omega⟩
      have HXS : Hid (∀ X, Below wr.heap.size wr X → Lst.Ints 0 X (.slice p xs.length c) xs) := Lib.hid fun X hX => HXS1.out _ (hT.2.2.2.1.trans (hX.mono hT.2.2.2.1.size))
      have HBW : Hid (∀ X, Below wr.heap.size wr X → Below w.heap.size w X) := Lib.hid fun X hX => HB.out.trans ((hT.2.2.2.1.trans (hX.mono hT.2.2.2.1.size)).mono HB.out.size)
      clear HTL HXS1 hT hTr hK hV hz hlt hi HB HL HBN HX
      have B0 : Hid (Below wr.heap.size wr wr.drew) := Lib.hid (below_drewN (Below.refl _ _) 1)
      go_upto_region 17 with fail
      refine wp_region_held_drew (S := (fun X => X.cell? ⟨b5, 0, none⟩ = some (.pointer pa) ∧ X.cell? ⟨b5, 1, none⟩ = some (.int .i64 root))) (by as_aux_lemma => kernel_rfl) ((cellsS ((HTX.out _ B0.out).2.2.2.2.2.2.2 (b5, boxS (.pointer pa) root) (by simp)).1).2) (fun hHeld0 => ?_)
      refine wpAnyH_take (i := 0) (v := ?_) rfl (by as_aux_lemma => kernel_rfl) (by as_aux_lemma => kernel_rfl) (by as_aux_lemma => kernel_rfl) (fun _ _ _ h => h) (Or.inl ⟨by as_aux_lemma => rfl, ?yt0⟩) (by assumption) ?qt0
      case yt0 => (intro wz hSw; (try dsimp only at hSw); go_simp <;> with_reducible rfl)
      try simp only [Act.put, List.getElem_toArray, List.getElem_cons_zero, List.setIfInBounds_toArray, List.set_cons_zero, List.set_cons_succ]
      refine wpAnyH_take (i := 2) (v := ?_) rfl (by as_aux_lemma => kernel_rfl) (by as_aux_lemma => kernel_rfl) (by as_aux_lemma => kernel_rfl) (fun _ _ _ h => h) (Or.inl ⟨by as_aux_lemma => rfl, ?yt2⟩) (by assumption) ?qt2
      case yt2 => (intro wz hSw; (try dsimp only at hSw); go_simp <;> with_reducible rfl)
      try simp only [Act.put, List.getElem_toArray, List.getElem_cons_zero, List.getElem_cons_succ, List.setIfInBounds_toArray, List.set_cons_zero, List.set_cons_succ]
      refine wpAnyH_ready (rs := [1]) (by as_aux_lemma => kernel_rfl) (by simp) ?_
      refine AllReadyH.cons rfl (fun K hK => ?_) AllReadyH.nil
      go_simp
      refine (fslist (HTX.out _ B0.out).2.1).mono ?_
      rintro e u1 ⟨v1, rfl, ho, hb⟩
      have F1 := Lib.hid (ho.ints (by have := HLN.out.1; rw [List.length_reverse]; omega))
      have B1 := Lib.hid (B0.out.trans (hb.mono B0.out.size))
      clear ho hb
      refine hK.out _ _ ((cellsS ((HTX.out _ B1.out).2.2.2.2.2.2.2 (b5, boxS (.pointer pa) root) (by simp)).1).2) (fun hHeld1 => ?_)
      clear hK K
      try simp only [Act.put, List.getElem_toArray, List.getElem_cons_zero, List.getElem_cons_succ, List.setIfInBounds_toArray, List.set_cons_zero, List.set_cons_succ]
      refine wpAnyH_ready (rs := [3]) (by as_aux_lemma => kernel_rfl) (by simp) ?_
      refine AllReadyH.cons rfl (fun K hK => ?_) AllReadyH.nil
      go_simp
      refine (pslist (HTX.out _ B1.out).2.2.1 HTR.out (by have := HLN.out.2; omega)).mono ?_
      rintro e u2 ⟨v2, rfl, ho, hb⟩
      rw [HVL.out] at ho
      have F2 := Lib.hid (And.intro (F1.out.below hb) (ho.ints (by have := HLN.out.1; rw [List.length_reverse]; omega)))
      have B2 := Lib.hid (B1.out.trans (hb.mono B1.out.size))
      clear ho hb F1
      refine hK.out _ _ ((cellsS ((HTX.out _ B2.out).2.2.2.2.2.2.2 (b5, boxS (.pointer pa) root) (by simp)).1).2) (fun hHeld2 => ?_)
      clear hK K
      try simp only [Act.put, List.getElem_toArray, List.getElem_cons_zero, List.getElem_cons_succ, List.setIfInBounds_toArray, List.set_cons_zero, List.set_cons_succ]
      refine wpAnyH_ready (rs := [4]) (by as_aux_lemma => kernel_rfl) (by simp) ?_
      refine AllReadyH.cons rfl (fun K hK => ?_) AllReadyH.nil
      go_simp
      refine (Lst.sameInts_yes F2.out.1 F2.out.2).mono ?_
      rintro e u3 ⟨rfl, q3, hq3⟩
      have B3 := Lib.hid (show Below wr.heap.size wr u3 by rw [hq3]; exact below_drewN B2.out _)
      clear hq3 F2
      refine hK.out _ _ ((cellsS ((HTX.out _ B3.out).2.2.2.2.2.2.2 (b5, boxS (.pointer pa) root) (by simp)).1).2) (fun hHeld3 => ?_)
      clear hK K
      try simp only [Act.put, List.getElem_toArray, List.getElem_cons_zero, List.getElem_cons_succ, List.setIfInBounds_toArray, List.set_cons_zero, List.set_cons_succ]
      refine wpAnyH_take (i := 5) (v := ?_) rfl (by as_aux_lemma => kernel_rfl) (by as_aux_lemma => kernel_rfl) (by as_aux_lemma => kernel_rfl) (fun _ _ _ h => h) (Or.inl ⟨by as_aux_lemma => rfl, ?yt5⟩) (by assumption) ?qt5
      case yt5 => (intro wz hSw; (try dsimp only at hSw); go_simp <;> with_reducible rfl)
      try simp only [Act.put, List.getElem_toArray, List.getElem_cons_zero, List.getElem_cons_succ, List.setIfInBounds_toArray, List.set_cons_zero, List.set_cons_succ]
      refine wpAnyH_take (i := 6) (v := ?_) rfl (by as_aux_lemma => kernel_rfl) (by as_aux_lemma => kernel_rfl) (by as_aux_lemma => kernel_rfl) (fun _ _ _ h => h) (Or.inl ⟨by as_aux_lemma => rfl, ?yt6⟩) (by assumption) ?qt6
      case yt6 => (intro wz hSw; (try dsimp only at hSw); go_simp <;> with_reducible rfl)
      try simp only [Act.put, List.getElem_toArray, List.getElem_cons_zero, List.getElem_cons_succ, List.setIfInBounds_toArray, List.set_cons_zero, List.set_cons_succ]
      refine wpAnyH_take (i := 8) (v := ?_) rfl (by as_aux_lemma => kernel_rfl) (by as_aux_lemma => kernel_rfl) (by as_aux_lemma => kernel_rfl) (fun _ _ _ h => h) (Or.inl ⟨by as_aux_lemma => rfl, ?yt8⟩) (by assumption) ?qt8
      case yt8 => (intro wz hSw; (try dsimp only at hSw); go_simp <;> with_reducible rfl)
      try simp only [Act.put, List.getElem_toArray, List.getElem_cons_zero, List.getElem_cons_succ, List.setIfInBounds_toArray, List.set_cons_zero, List.set_cons_succ]
      refine wpAnyH_ready (rs := [7]) (by as_aux_lemma => kernel_rfl) (by simp) ?_
      refine AllReadyH.cons rfl (fun K hK => ?_) AllReadyH.nil
      go_simp
      refine (fqlist (HTX.out _ B3.out).1).mono ?_
      rintro e u4 ⟨v3, rfl, ho, hb⟩
      have B4 := Lib.hid (B3.out.trans (hb.mono B3.out.size))
      have F3 := Lib.hid (And.intro (ho.ints (by have := HLN.out.1; omega)) (HXS.out _ B4.out))
      clear ho hb
      refine hK.out _ _ ((cellsS ((HTX.out _ B4.out).2.2.2.2.2.2.2 (b5, boxS (.pointer pa) root) (by simp)).1).2) (fun hHeld4 => ?_)
      clear hK K
      try simp only [Act.put, List.getElem_toArray, List.getElem_cons_zero, List.getElem_cons_succ, List.setIfInBounds_toArray, List.set_cons_zero, List.set_cons_succ]
      refine wpAnyH_ready (rs := [9]) (by as_aux_lemma => kernel_rfl) (by simp) ?_
      refine AllReadyH.cons rfl (fun K hK => ?_) AllReadyH.nil
      go_simp
      refine (Lst.sameInts_yes F3.out.1 F3.out.2).mono ?_
      rintro e u5 ⟨rfl, q5, hq5⟩
      have B5 := Lib.hid (show Below wr.heap.size wr u5 by rw [hq5]; exact below_drewN B4.out _)
      clear hq5 F3
      refine hK.out _ _ ((cellsS ((HTX.out _ B5.out).2.2.2.2.2.2.2 (b5, boxS (.pointer pa) root) (by simp)).1).2) (fun hHeld5 => ?_)
      clear hK K
      try simp only [Act.put, List.getElem_toArray, List.getElem_cons_zero, List.getElem_cons_succ, List.setIfInBounds_toArray, List.set_cons_zero, List.set_cons_succ]
      refine wpAnyH_take (i := 10) (v := ?_) rfl (by as_aux_lemma => kernel_rfl) (by as_aux_lemma => kernel_rfl) (by as_aux_lemma => kernel_rfl) (fun _ _ _ h => h) (Or.inl ⟨by as_aux_lemma => rfl, ?yt10⟩) (by assumption) ?qt10
      case yt10 => (intro wz hSw; (try dsimp only at hSw); go_simp <;> with_reducible rfl)
      try simp only [Act.put, List.getElem_toArray, List.getElem_cons_zero, List.getElem_cons_succ, List.setIfInBounds_toArray, List.set_cons_zero, List.set_cons_succ]
      refine wpAnyH_take (i := 11) (v := ?_) rfl (by as_aux_lemma => kernel_rfl) (by as_aux_lemma => kernel_rfl) (by as_aux_lemma => kernel_rfl) (fun _ _ _ h => h) (Or.inl ⟨by as_aux_lemma => rfl, ?yt11⟩) (by assumption) ?qt11
      case yt11 => (intro wz hSw; (try dsimp only at hSw); go_simp <;> with_reducible rfl)
      try simp only [Act.put, List.getElem_toArray, List.getElem_cons_zero, List.getElem_cons_succ, List.setIfInBounds_toArray, List.set_cons_zero, List.set_cons_succ]
      refine wpAnyH_take (i := 12) (v := ?_) rfl (by as_aux_lemma => kernel_rfl) (by as_aux_lemma => kernel_rfl) (by as_aux_lemma => kernel_rfl) (fun _ _ _ h => h) (Or.inl ⟨by as_aux_lemma => rfl, ?yt12⟩) (by assumption) ?qt12
      case yt12 => (intro wz hSw; (try dsimp only at hSw); go_simp <;> with_reducible rfl)
      try simp only [Act.put, List.getElem_toArray, List.getElem_cons_zero, List.getElem_cons_succ, List.setIfInBounds_toArray, List.set_cons_zero, List.set_cons_succ]
      refine wpAnyH_take (i := 14) (v := ?_) rfl (by as_aux_lemma => kernel_rfl) (by as_aux_lemma => kernel_rfl) (by as_aux_lemma => kernel_rfl) (fun _ _ _ h => h) (Or.inl ⟨by as_aux_lemma => rfl, ?yt14⟩) (by assumption) ?qt14
      case yt14 => (intro wz hSw; (try dsimp only at hSw); go_simp <;> with_reducible rfl)
      try simp only [Act.put, List.getElem_toArray, List.getElem_cons_zero, List.getElem_cons_succ, List.setIfInBounds_toArray, List.set_cons_zero, List.set_cons_succ]
      refine wpAnyH_take (i := 15) (v := ?_) rfl (by as_aux_lemma => kernel_rfl) (by as_aux_lemma => kernel_rfl) (by as_aux_lemma => kernel_rfl) (fun _ _ _ h => h) (Or.inl ⟨by as_aux_lemma => rfl, ?yt15⟩) (by assumption) ?qt15
      case yt15 => (intro wz hSw; (try dsimp only at hSw); go_simp <;> with_reducible rfl)
      try simp only [Act.put, List.getElem_toArray, List.getElem_cons_zero, List.getElem_cons_succ, List.setIfInBounds_toArray, List.set_cons_zero, List.set_cons_succ]
      refine wpAnyH_ready (rs := [13]) (by as_aux_lemma => kernel_rfl) (by simp) ?_
      refine AllReadyH.cons rfl (fun K hK => ?_) AllReadyH.nil
      go_simp
      refine (pslen (HTX.out _ B5.out).2.2.1 HTR.out).mono ?_
      rintro e u6 ⟨he, hb⟩
      rw [HSZ.out] at he
      subst he
      have B6 := Lib.hid (B5.out.trans (hb.mono B5.out.size))
      clear hb
      refine hK.out _ _ ((cellsS ((HTX.out _ B6.out).2.2.2.2.2.2.2 (b5, boxS (.pointer pa) root) (by simp)).1).2) (fun hHeld6 => ?_)
      clear hK K
      try simp only [Act.put, List.getElem_toArray, List.getElem_cons_zero, List.getElem_cons_succ, List.setIfInBounds_toArray, List.set_cons_zero, List.set_cons_succ]
      refine wpAnyH_take (i := 16) (v := ?_) rfl (by as_aux_lemma => kernel_rfl) (by as_aux_lemma => kernel_rfl) (by as_aux_lemma => kernel_rfl) (fun _ _ _ h => h) (Or.inl ⟨by as_aux_lemma => rfl, ?yt16⟩) (by assumption) ?qt16
      case yt16 => (intro wz hSw; (try dsimp only at hSw); go_simp <;> with_reducible rfl)
      try simp only [Act.put, List.getElem_toArray, List.getElem_cons_zero, List.getElem_cons_succ, List.setIfInBounds_toArray, List.set_cons_zero, List.set_cons_succ]
      refine wpAnyH_take (i := 17) (v := ?_) rfl (by as_aux_lemma => kernel_rfl) (by as_aux_lemma => kernel_rfl) (by as_aux_lemma => kernel_rfl) (fun _ _ _ h => h) (Or.inl ⟨by as_aux_lemma => rfl, ?yt17⟩) (by assumption) ?qt17
      case yt17 => (intro wz hSw; (try dsimp only at hSw); go_simp <;> with_reducible rfl)
      try simp only [Act.put, List.getElem_toArray, List.getElem_cons_zero, List.getElem_cons_succ, List.setIfInBounds_toArray, List.set_cons_zero, List.set_cons_succ]
      refine wpAnyH_take (i := 18) (v := ?_) rfl (by as_aux_lemma => kernel_rfl) (by as_aux_lemma => kernel_rfl) (by as_aux_lemma => kernel_rfl) (fun _ _ _ h => h) (Or.inl ⟨by as_aux_lemma => rfl, ?yt18⟩) (by assumption) ?qt18
      case yt18 => (intro wz hSw; (try dsimp only at hSw); go_simp <;> with_reducible rfl)
      try simp only [Act.put, List.getElem_toArray, List.getElem_cons_zero, List.getElem_cons_succ, List.setIfInBounds_toArray, List.set_cons_zero, List.set_cons_succ]
      refine wpAnyH_done (by as_aux_lemma => kernel_rfl) ?_ _
      go_wp2_with fail
      go_ret
      exact ⟨rfl, HBW.out _ B6.out⟩
end Go.Proofs.Ytpbkclciipmonaa.F
