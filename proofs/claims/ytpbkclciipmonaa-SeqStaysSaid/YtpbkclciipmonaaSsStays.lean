/-
  SeqStays, walked over what lives tells. Not a statement of the seat.
-/
import Derived.Test.YtpbkclciipmonaaSsEnt
namespace Go.Proofs.Ytpbkclciipmonaa.Q
open Go.ChangeShapes Go.WideShapes Go.ChangeAt Go.RowKit Base F
def Nx (n k : Nat) : Prop := n = k + 1
def boxD (d : Dd7) : Obj := .cells #[.int .i64 d.kind, .int .i64 d.from_, .int .i64 d.i, .int .i64 d.val] 34
theorem cellsD {w : World} {g : Nat} {d : Dd7} (h : w.heap[g]? = some (boxD d)) : g < w.heap.size ∧ w.cell? ⟨g, 0, none⟩ = some (.int .i64 d.kind) ∧ w.cell? ⟨g, 1, none⟩ = some (.int .i64 d.from_) ∧ w.cell? ⟨g, 2, none⟩ = some (.int .i64 d.i) ∧ w.cell? ⟨g, 3, none⟩ = some (.int .i64 d.val) := by
  refine ⟨heap_lt h, ?_⟩
  unfold boxD at h
  simp [World.cell?, h]
set_option maxHeartbeats 40000000 in
set_option maxRecDepth 100000 in
theorem stays (HLV : ∀ w : World, Calls Try.prog 7 #[] w fun e w' => e = .returned (.bool true) ∧ Below w.heap.size w w') (v : Value) (D : List Dd7) (w : World) (hl : Dd7s 0 w v D) (hok : ∀ x ∈ D, x.ok) :
    Calls Try.prog 4 #[v] w fun e w' => e = .returned (.bool true) ∧ Below w.heap.size w w' := by
  obtain ⟨p, cp, rfl, hl1, hc⟩ := hl.open_
  clear hl
  have HC := Lib.hid hc
  have HOK : Hid (∀ k, k < D.length → (D.getD k Dd7.zero).ok) := Lib.hid fun k hk => hok _ (by rw [List.getD_eq_getElem?_getD, List.getElem?_eq_getElem hk]; exact List.getElem_mem hk)
  clear hc hok
  go_enter Try.func4, Try.ntmps4
  go_wp2_with fail
  refine (HLV w).mono ?_
  rintro e wl ⟨rfl, hbl⟩
  have B0 := Lib.hid hbl
  clear hbl
  by_cases h1 : 60 < D.length
  · clear HC HOK
    go_wp2
    go_ret
    exact ⟨rfl, B0.out⟩
  have h2 : D.length ≤ 60 := by omega
  go_wp2_with fail
  refine (arnew_any 65536 wl).mono ?_
  rintro e w1 ⟨rfl, hA, hb⟩
  rw [show roomOf 65536 = 65536 by decide] at hA
  obtain ⟨pa, hpa⟩ : ∃ pa, pa = some (⟨wl.heap.size, 0, none⟩ : Addr) := ⟨_, rfl⟩
  have P0 : Hid (PS w w1 (.pointer pa) none 65536 [] (.slice none 0 0) [] []) := Lib.hid (by rw [hpa]; exact ⟨AI.new hA (B0.out.trans (hb.mono B0.out.size)) B0.out.size, QS.nil _ _ _, fun p hp => by cases hp⟩)
  clear hA hb
  go_wp2_with fail
  rw [← hpa]
  clear hpa
  refine (psnew P0.out.1.1).mono ?_
  rintro e w2 ⟨rfl, hb⟩
  have P1 := Lib.hid ((((P0.out.below hb).addAt (.cells #[(.pointer pa), .int .i64 0] 27) rfl).addAt (g := w2.heap.size + 1) (.cells #[.slice none 0 0] 29) (by simp)).drop (bs' := (w2.heap.size, .cells #[(.pointer pa), .int .i64 0] 27) :: (w2.heap.size + 1, .cells #[.slice none 0 0] 29) :: []) (by intro q hq; simp only [List.mem_cons] at hq ⊢; rcases hq with h | h | h <;> simp [h]))
  have HI0 : Hid (Nx 1 0 ∧ w.heap.size ≤ w2.heap.size ∧ w.heap.size ≤ w2.heap.size + 1 ∧ EA (.pointer pa) [] 1 (w2.heap.size, .cells #[(.pointer pa), .int .i64 0] 27) (w2.heap.size + 1, .cells #[.slice none 0 0] 29) (.slice (some ⟨w2.heap.size, 0, none⟩) 1 1) (.slice (some ⟨w2.heap.size + 1, 0, none⟩) 1 1) [] [(.nil, 0, .slice none 0 0)] ∧ PS w _ (.pointer pa) none 65536 [] (.slice none 0 0) [] ((w2.heap.size, .cells #[(.pointer pa), .int .i64 0] 27) :: (w2.heap.size + 1, .cells #[.slice none 0 0] 29) :: [])) := Lib.hid ⟨rfl, (P0.out.below hb).1.2.1.size, Nat.le_succ_of_le (P0.out.below hb).1.2.1.size, EA.first _ _ _ (by omega), P1.out⟩
  clear hb P0 P1
  go_wp2_with fail
  go_loopw [4, 5, 30] (fun s4 s5 s30 wr => ∃ (k n : Nat) (l : List Ent) (o : Option Nat) (zs : List Cel) (g4 g5 c4 c5 : Nat) (ob4 ob5 : Obj) (es : List (Nat × Obj)), s4 = .slice (some ⟨g4, 0, none⟩) n c4 ∧ s5 = .slice (some ⟨g5, 0, none⟩) n c5 ∧ s30 = .int .i64 (k : Int) ∧ k ≤ D.length ∧ Hid (Nx n k ∧ w.heap.size ≤ g4 ∧ w.heap.size ≤ g5 ∧ EA (.pointer pa) zs n (g4, ob4) (g5, ob5) (.slice (some ⟨g4, 0, none⟩) n c4) (.slice (some ⟨g5, 0, none⟩) n c5) es l ∧ PS w wr (.pointer pa) o 65536 zs (.slice none 0 0) [] ((g4, ob4) :: (g5, ob5) :: es))) (fun _ _ s30 _ => D.length - (intOf s30).toNat)
  case atStart => exact ⟨0, 1, _, none, [], _, _, 1, 1, _, _, [], rfl, rfl, rfl, Nat.zero_le _, HI0⟩
  case round =>
    clear HI0
    obtain ⟨k, n, l, o, zs, g4, g5, c4, c5, ob4, ob5, es, rfl, rfl, rfl, hk, HI⟩ := hrel
    by_cases hlt : k < D.length
    · obtain ⟨g', o', rfl, _, hg, d0, d1, d2, d3⟩ := HC.out k hlt
      have hn : n ≤ 61 ∧ 0 < n := by have := HI.out.1; unfold Nx at this; omega
      have hn1 := hn.1
      have d0 := (HI.out.2.2.2.2.1.2.1.cell (p := ⟨g', _, none⟩) hg).trans d0
      have d1 := (HI.out.2.2.2.2.1.2.1.cell (p := ⟨g', _, none⟩) hg).trans d1
      have d2 := (HI.out.2.2.2.2.1.2.1.cell (p := ⟨g', _, none⟩) hg).trans d2
      have d3 := (HI.out.2.2.2.2.1.2.1.cell (p := ⟨g', _, none⟩) hg).trans d3
      have hg := Nat.lt_of_lt_of_le hg HI.out.2.2.2.2.1.2.1.size
      have HDK := Lib.hid (HOK.out k hlt)
      generalize D.getD k Dd7.zero = d at d0 d1 d2 d3 HDK
      have P1 := Lib.hid (HI.out.2.2.2.2.addAt (boxD d) rfl)
      have hi := pickN_lt d.from_ n hn.2
      go_wp2_with fail
      refine (pspick d.from_ n _ hn.2 (by omega)).mono ?_
      rintro e wx ⟨rfl, rfl⟩
      generalize pickN d.from_ n = i at hi
      obtain ⟨t, r, v, hm, f0, f1, f2⟩ := ent_at (.pointer pa) l i (by rw [HI.out.2.2.2.1.1]; exact hi)
      have HE := Lib.hid (HI.out.2.2.2.1.2.2.2.1 t r v hm)
      obtain ⟨_, _, rfl, _, hc4, hcells⟩ := HI.out.2.2.2.1.2.1.open_
      obtain ⟨hg4, hcell⟩ := hcells wr (HI.out.2.2.2.2.2.2 (g4, ob4) (by simp)).1
      have c0 := (hcell (i * 2) (by omega)).trans f0
      have c1 := (hcell (i * 2 + 1) (by omega)).trans f1
      clear hcell hcells f0 f1 f2 hm
      simp only at hg4 c0 c1
      obtain ⟨b7, hb7⟩ : ∃ b, b = wr.heap.size := ⟨_, rfl⟩
      obtain ⟨b8, hb8⟩ : ∃ b, b = b7 + 1 := ⟨_, rfl⟩
      obtain ⟨wy, hwy⟩ : ∃ wy, wy = (wr.alloc (boxD d)).alloc (boxS (.pointer pa) r) := ⟨_, rfl⟩
      have P2 := Lib.hid (P1.out.addAt (g := wr.heap.size + 1) (boxS (.pointer pa) r) (by simp))
      have HLO : Hid (∀ q ∈ (g4, ob4) :: (g5, ob5) :: es, q.1 < b7) := Lib.hid fun q hq => hb7 ▸ heap_lt (HI.out.2.2.2.2.2.2 q hq).1
      have H78 : Hid (b7 < b8) := Lib.hid (by omega)
      rw [← hb7, ← hb8, ← hwy] at P2
      clear P1
      unfold boxD boxS at hwy
      go_upto_region 14 with fail
      rw [← hwy]
      rw [← hb7, ← hb8]
      clear hwy hb8 hb7 c0 c1 hc4 hg4 hi d0 d1 d2 d3 hg
      have HX : Hid (∀ X, Below wy.heap.size wy X → (X.cell? ⟨b8, 0, none⟩ = some (.pointer pa) ∧ X.cell? ⟨b8, 1, none⟩ = some (.int .i64 r) ∧ X.cell? ⟨b7, 2, none⟩ = some (.int .i64 d.i)) ∧ PS w X (.pointer pa) o 65536 zs (.slice none 0 0) [] ((b8, boxS (.pointer pa) r) :: (b7, boxD d) :: (g4, ob4) :: (g5, ob5) :: es)) := Lib.hid fun X hX => by
        have h := P2.out.below hX
        have h8 := cellsS (h.2.2 (b8, boxS (.pointer pa) r) (by simp)).1
        have h7 := cellsD (h.2.2 (b7, boxD d) (by simp)).1
        exact ⟨⟨h8.2.1, h8.2.2, h7.2.2.2.1⟩, h⟩
      clear P2
      obtain ⟨L, hL⟩ : ∃ L, L = t.size := ⟨_, rfl⟩
      have HL : Hid ((t.size : Int) = (L : Int) ∧ t.size = L ∧ L ≤ n) := Lib.hid ⟨by rw [hL], hL.symm, by rw [hL]; exact HE.out.2.2.2.1⟩
      clear hL
      have hw : IntKind.i64.wrap ((L : Int) + 1) = ((L + 1 : Nat) : Int) := by have := HL.out.2.2; rw [IntKind.wrap_i64]; omega
      have B0' : Hid (Below wy.heap.size wy wy.drew) := Lib.hid (below_drewN (Below.refl _ _) 1)
      refine wp_region_held_drew (S := (fun X => X.cell? ⟨b8, 0, none⟩ = some (.pointer pa) ∧ X.cell? ⟨b8, 1, none⟩ = some (.int .i64 r) ∧ X.cell? ⟨b7, 2, none⟩ = some (.int .i64 d.i))) (by as_aux_lemma => kernel_rfl) (HX.out _ B0'.out).1 (fun hHeld0 => ?_)
      refine wpAnyH_take (i := 0) (v := ?_) rfl (by as_aux_lemma => kernel_rfl) (by as_aux_lemma => kernel_rfl) (by as_aux_lemma => kernel_rfl) (fun _ _ _ h => h) (Or.inl ⟨by as_aux_lemma => rfl, ?ya0⟩) (by assumption) ?qa0
      case ya0 => (intro wz hSw; (try dsimp only at hSw); go_simp <;> with_reducible rfl)
      try simp only [Act.put, List.getElem_toArray, List.getElem_cons_zero, List.setIfInBounds_toArray, List.set_cons_zero, List.set_cons_succ]
      refine wpAnyH_take (i := 1) (v := ?_) rfl (by as_aux_lemma => kernel_rfl) (by as_aux_lemma => kernel_rfl) (by as_aux_lemma => kernel_rfl) (fun _ _ _ h => h) (Or.inl ⟨by as_aux_lemma => rfl, ?ya1⟩) (by assumption) ?qa1
      case ya1 => (intro wz hSw; (try dsimp only at hSw); go_simp <;> with_reducible rfl)
      try simp only [Act.put, List.getElem_toArray, List.getElem_cons_zero, List.getElem_cons_succ, List.setIfInBounds_toArray, List.set_cons_zero, List.set_cons_succ]
      refine wpAnyH_take (i := 2) (v := ?_) rfl (by as_aux_lemma => kernel_rfl) (by as_aux_lemma => kernel_rfl) (by as_aux_lemma => kernel_rfl) (fun _ _ _ h => h) (Or.inl ⟨by as_aux_lemma => rfl, ?ya2⟩) (by assumption) ?qa2
      case ya2 => (intro wz hSw; (try dsimp only at hSw); go_simp <;> with_reducible rfl)
      try simp only [Act.put, List.getElem_toArray, List.getElem_cons_zero, List.getElem_cons_succ, List.setIfInBounds_toArray, List.set_cons_zero, List.set_cons_succ]
      refine wpAnyH_ready (rs := [3]) (by as_aux_lemma => kernel_rfl) (by simp) ?_
      refine AllReadyH.cons rfl (fun K hK => ?_) AllReadyH.nil
      go_simp
      refine (pslen (HX.out _ B0'.out).2.1.1 (t := t) (root := r) HE.out.1).mono ?_
      rintro e u1 ⟨he, hb⟩
      rw [HL.out.1] at he
      subst he
      have B1 := Lib.hid (Below.trans (show Below wy.heap.size wy _ from B0'.out) (hb.mono (show wy.heap.size ≤ _ from Below.size B0'.out)))
      clear hb
      refine hK.out _ _ (HX.out _ B1.out).1 (fun hHeld1 => ?_)
      clear hK K
      try simp only [Act.put, List.getElem_toArray, List.getElem_cons_zero, List.getElem_cons_succ, List.setIfInBounds_toArray, List.set_cons_zero, List.set_cons_succ]
      refine wpAnyH_take (i := 4) (v := ?_) rfl (by as_aux_lemma => kernel_rfl) (by as_aux_lemma => kernel_rfl) (by as_aux_lemma => kernel_rfl) (fun _ _ _ h => h) (Or.inl ⟨by as_aux_lemma => rfl, ?ya4⟩) (by assumption) ?qa4
      case ya4 => (intro wz hSw; (try dsimp only at hSw); go_simp <;> with_reducible rfl)
      try simp only [Act.put, List.getElem_toArray, List.getElem_cons_zero, List.getElem_cons_succ, List.setIfInBounds_toArray, List.set_cons_zero, List.set_cons_succ]
      refine wpAnyH_ready (rs := [5]) (by as_aux_lemma => kernel_rfl) (by simp) ?_
      refine AllReadyH.cons rfl (fun K hK => ?_) AllReadyH.nil
      go_simp
      refine (pspick_b d.i (L + 1) _ (by omega) (by have := HL.out.2.2; omega)).mono ?_
      rintro e u2 ⟨he, hb⟩
      subst he
      have B2 := Lib.hid (Below.trans (show Below wy.heap.size wy _ from B1.out) (hb.mono (show wy.heap.size ≤ _ from Below.size B1.out)))
      clear hb
      refine hK.out _ _ (HX.out _ B2.out).1 (fun hHeld2 => ?_)
      clear hK K
      try simp only [Act.put, List.getElem_toArray, List.getElem_cons_zero, List.getElem_cons_succ, List.setIfInBounds_toArray, List.set_cons_zero, List.set_cons_succ]
      refine wpAnyH_take (i := 6) (v := ?_) rfl (by as_aux_lemma => kernel_rfl) (by as_aux_lemma => kernel_rfl) (by as_aux_lemma => kernel_rfl) (fun _ _ _ h => h) (Or.inl ⟨by as_aux_lemma => rfl, ?ya6⟩) (by assumption) ?qa6
      case ya6 => (intro wz hSw; (try dsimp only at hSw); go_simp <;> with_reducible rfl)
      try simp only [Act.put, List.getElem_toArray, List.getElem_cons_zero, List.getElem_cons_succ, List.setIfInBounds_toArray, List.set_cons_zero, List.set_cons_succ]
      refine wpAnyH_done (by as_aux_lemma => kernel_rfl) ?_ _
      have hi2 := pickN_lt d.i (L + 1) (by omega)
      generalize pickN d.i (L + 1) = i2 at hi2
      have hi2 : i2 ≤ t.size := by have := HL.out.2.1; omega
      have HI2 := Lib.hid hi2
      have P3 := Lib.hid (HX.out _ B2.out).2
      have HW3 : Hid (Below wy.heap.size wy u2) := B2
      obtain ⟨_, m0, m1⟩ := cellsS (P3.out.2.2 (b8, boxS (.pointer pa) r) (by simp)).1
      obtain ⟨_, e0, e1, e2, e3⟩ := cellsD (P3.out.2.2 (b7, boxD d) (by simp)).1
      clear hi2 HX
      have hh12 : t.high ≤ 12 := high_le HE.out.2.2.1 (n := 61) (Nat.le_trans HE.out.2.2.2.1 hn1) (by decide)
      have HH12 := Lib.hid hh12
      clear hh12
      go_wp2_with fail
      refine (psinsert i2 d.val HDK.out.2.2.2 P3.out.1.1 (t := t) (root := r) HE.out.1 HE.out.2.1 (by have := HE.out.2.2.2.1; omega) HI2.out).mono ?_
      intro e w3 hp
      obtain ⟨rt2, why, zs2, hs, hM⟩ := hp.step
      obtain ⟨rfl, o2, P4⟩ := P3.out.step hs
      have H2 := Lib.hid (res_ok hM.out (by have := HI.out.2.2.2.1.2.2.2.2.2.2; have := HH12.out; omega))
      obtain rfl : why = 0 := H2.out.1
      have HT2 : Hid ((Tre.insAt i2 d.val t).size = t.size + 1 ∧ K0 (Tre.insAt i2 d.val t) ∧ (Tre.insAt i2 d.val t).bal ∧ (Tre.insAt i2 d.val t).high ≤ 13 ∧ (Tre.delAt i2 (Tre.insAt i2 d.val t)).vals = t.vals) := Lib.hid ⟨insAt_size HI2.out, k0_insAt _ _ HE.out.2.1, (Tre.insAt_bal i2 d.val HE.out.2.2.1).1, by have := (Tre.insAt_bal i2 d.val HE.out.2.2.1).2.2; have := HH12.out; omega, del_ins HI2.out⟩
      obtain ⟨b10, hb10⟩ : ∃ b, b = w3.heap.size := ⟨_, rfl⟩
      have H810 : Hid (b8 < b10) := Lib.hid (hb10 ▸ heap_lt (P4.out.2.2 (b8, boxS (.pointer pa) r) (by simp)).1)
      have P5 := Lib.hid (P4.out.addAt (boxS (.pointer pa) rt2) hb10)
      obtain ⟨W5, hW5⟩ : ∃ W, W = w3.alloc (boxS (.pointer pa) rt2) := ⟨_, rfl⟩
      rw [← hW5] at P5
      unfold boxS at hW5
      clear hp hs hM P3 P4 m0 m1 e0 e1 e2 e3 HW3 hw
      generalize hT2 : Tre.insAt i2 d.val t = T2 at H2 HT2
      clear hT2
      go_wp2_with fail
      rw [← hb10, ← hW5]
      clear hb10 hW5
      refine (psdel i2 P5.out.1.1 (t := T2) (root := rt2) H2.out.2.2.2 HT2.out.2.1 (by rw [HT2.out.1]; have := HE.out.2.2.2.1; omega) (by rw [HT2.out.1]; have := HI2.out; omega)).mono ?_
      intro e w5 hp
      obtain ⟨rt3, why, zs3, hs, hM⟩ := hp.step
      obtain ⟨rfl, o3, P6⟩ := P5.out.step hs
      have H3 := Lib.hid (res_ok hM.out (by have := HI.out.2.2.2.1.2.2.2.2.2.2; have := HH12.out; have := H2.out.2.2.1; have := HT2.out.2.2.2.1; omega))
      obtain rfl : why = 0 := H3.out.1
      obtain ⟨b12, hb12⟩ : ∃ b, b = w5.heap.size := ⟨_, rfl⟩
      have P7 := Lib.hid (P6.out.addAt (boxS (.pointer pa) rt3) hb12)
      obtain ⟨wz, hwz⟩ : ∃ W, W = w5.alloc (boxS (.pointer pa) rt3) := ⟨_, rfl⟩
      rw [← hwz] at P7
      unfold boxS at hwz
      clear hp hs hM P5 P6
      generalize hT3 : Tre.delAt i2 T2 = T3 at H3 HT2
      clear hT3
      have HT : Hid ((∃ new, zs3 = zs ++ new) ∧ zs3.length ≤ 80 * (n + 1) ∧ Tr zs3 t r ∧ Tr zs3 T2 rt2 ∧ Tr zs3 T3 rt3 ∧ T3.vals = t.vals ∧ T3.size < 65536 ∧ (T2.size : Int) = ((L + 1 : Nat) : Int) ∧ T2.size ≤ n + 1) := Lib.hid (by
        obtain ⟨_, ⟨n2, e2⟩, l2, t2⟩ := H2.out
        obtain ⟨_, ⟨n3, e3⟩, l3, t3⟩ := H3.out
        have := HH12.out
        have := HT2.out.2.2.2.1
        have := HI.out.2.2.2.1.2.2.2.2.2.2
        have hv : T3.size = t.size := by rw [← Tre.vals_len, HT2.out.2.2.2.2, Tre.vals_len]
        have := HE.out.2.2.2.1
        have h2 := HT2.out.1
        have h3 := HL.out.2.1
        exact ⟨⟨n2 ++ n3, by rw [e3, e2, List.append_assoc]⟩, by omega, by rw [e3, e2]; exact (HE.out.1.append _).append _, by rw [e3]; exact t2.append _, t3, HT2.out.2.2.2.2, by omega, by rw [h2, h3], by omega⟩)
      clear H2 H3
      go_upto_region 17 with fail
      rw [← hb12, ← hwz]
      clear hb12 hwz
      have HX : Hid (∀ X, Below wz.heap.size wz X → (X.cell? ⟨b12, 0, none⟩ = some (.pointer pa) ∧ X.cell? ⟨b12, 1, none⟩ = some (.int .i64 rt3) ∧ X.cell? ⟨b10, 0, none⟩ = some (.pointer pa) ∧ X.cell? ⟨b10, 1, none⟩ = some (.int .i64 rt2) ∧ X.cell? ⟨b8, 0, none⟩ = some (.pointer pa) ∧ X.cell? ⟨b8, 1, none⟩ = some (.int .i64 r)) ∧ PS w X (.pointer pa) o3 65536 zs3 (.slice none 0 0) [] ((b12, boxS (.pointer pa) rt3) :: (b10, boxS (.pointer pa) rt2) :: (b8, boxS (.pointer pa) r) :: (b7, boxD d) :: (g4, ob4) :: (g5, ob5) :: es)) := Lib.hid fun X hX => by
        have h := P7.out.below hX
        have h12 := cellsS (h.2.2 (b12, boxS (.pointer pa) rt3) (by simp)).1
        have h10 := cellsS (h.2.2 (b10, boxS (.pointer pa) rt2) (by simp)).1
        have h8 := cellsS (h.2.2 (b8, boxS (.pointer pa) r) (by simp)).1
        exact ⟨⟨h12.2.1, h12.2.2, h10.2.1, h10.2.2, h8.2.1, h8.2.2⟩, h⟩
      clear P7
      have hw : IntKind.i64.wrap ((L : Int) + 1) = ((L + 1 : Nat) : Int) := by have := HL.out.2.2; rw [IntKind.wrap_i64]; omega
      have B0' : Hid (Below wz.heap.size wz wz.drew) := Lib.hid (below_drewN (Below.refl _ _) 1)
      have hsm : t.size < 65536 := by have := HE.out.2.2.2.1; omega
      have HSM : Hid (t.size < 65536 ∧ t.vals.length ≤ 65536) := Lib.hid ⟨hsm, by rw [Tre.vals_len]; omega⟩
      clear hsm
      refine wp_region_held_drew (S := (fun X => X.cell? ⟨b12, 0, none⟩ = some (.pointer pa) ∧ X.cell? ⟨b12, 1, none⟩ = some (.int .i64 rt3) ∧ X.cell? ⟨b10, 0, none⟩ = some (.pointer pa) ∧ X.cell? ⟨b10, 1, none⟩ = some (.int .i64 rt2) ∧ X.cell? ⟨b8, 0, none⟩ = some (.pointer pa) ∧ X.cell? ⟨b8, 1, none⟩ = some (.int .i64 r))) (by as_aux_lemma => kernel_rfl) (HX.out _ B0'.out).1 (fun hHeld0 => ?_)
      refine wpAnyH_take (i := 0) (v := ?_) rfl (by as_aux_lemma => kernel_rfl) (by as_aux_lemma => kernel_rfl) (by as_aux_lemma => kernel_rfl) (fun _ _ _ h => h) (Or.inl ⟨by as_aux_lemma => rfl, ?yc0⟩) (by assumption) ?qc0
      case yc0 => (intro wz hSw; (try dsimp only at hSw); go_simp <;> with_reducible rfl)
      try simp only [Act.put, List.getElem_toArray, List.getElem_cons_zero, List.setIfInBounds_toArray, List.set_cons_zero, List.set_cons_succ]
      refine wpAnyH_take (i := 1) (v := ?_) rfl (by as_aux_lemma => kernel_rfl) (by as_aux_lemma => kernel_rfl) (by as_aux_lemma => kernel_rfl) (fun _ _ _ h => h) (Or.inl ⟨by as_aux_lemma => rfl, ?yc1⟩) (by assumption) ?qc1
      case yc1 => (intro wz hSw; (try dsimp only at hSw); go_simp <;> with_reducible rfl)
      try simp only [Act.put, List.getElem_toArray, List.getElem_cons_zero, List.getElem_cons_succ, List.setIfInBounds_toArray, List.set_cons_zero, List.set_cons_succ]
      refine wpAnyH_take (i := 2) (v := ?_) rfl (by as_aux_lemma => kernel_rfl) (by as_aux_lemma => kernel_rfl) (by as_aux_lemma => kernel_rfl) (fun _ _ _ h => h) (Or.inl ⟨by as_aux_lemma => rfl, ?yc2⟩) (by assumption) ?qc2
      case yc2 => (intro wz hSw; (try dsimp only at hSw); go_simp <;> with_reducible rfl)
      try simp only [Act.put, List.getElem_toArray, List.getElem_cons_zero, List.getElem_cons_succ, List.setIfInBounds_toArray, List.set_cons_zero, List.set_cons_succ]
      refine wpAnyH_take (i := 3) (v := ?_) rfl (by as_aux_lemma => kernel_rfl) (by as_aux_lemma => kernel_rfl) (by as_aux_lemma => kernel_rfl) (fun _ _ _ h => h) (Or.inl ⟨by as_aux_lemma => rfl, ?yc3⟩) (by assumption) ?qc3
      case yc3 => (intro wz hSw; (try dsimp only at hSw); go_simp <;> with_reducible rfl)
      try simp only [Act.put, List.getElem_toArray, List.getElem_cons_zero, List.getElem_cons_succ, List.setIfInBounds_toArray, List.set_cons_zero, List.set_cons_succ]
      refine wpAnyH_take (i := 4) (v := ?_) rfl (by as_aux_lemma => kernel_rfl) (by as_aux_lemma => kernel_rfl) (by as_aux_lemma => kernel_rfl) (fun _ _ _ h => h) (Or.inl ⟨by as_aux_lemma => rfl, ?yc4⟩) (by assumption) ?qc4
      case yc4 => (intro wz hSw; (try dsimp only at hSw); go_simp <;> with_reducible rfl)
      try simp only [Act.put, List.getElem_toArray, List.getElem_cons_zero, List.getElem_cons_succ, List.setIfInBounds_toArray, List.set_cons_zero, List.set_cons_succ]
      refine wpAnyH_take (i := 5) (v := ?_) rfl (by as_aux_lemma => kernel_rfl) (by as_aux_lemma => kernel_rfl) (by as_aux_lemma => kernel_rfl) (fun _ _ _ h => h) (Or.inl ⟨by as_aux_lemma => rfl, ?yc5⟩) (by assumption) ?qc5
      case yc5 => (intro wz hSw; (try dsimp only at hSw); go_simp <;> with_reducible rfl)
      try simp only [Act.put, List.getElem_toArray, List.getElem_cons_zero, List.getElem_cons_succ, List.setIfInBounds_toArray, List.set_cons_zero, List.set_cons_succ]
      refine wpAnyH_take (i := 6) (v := ?_) rfl (by as_aux_lemma => kernel_rfl) (by as_aux_lemma => kernel_rfl) (by as_aux_lemma => kernel_rfl) (fun _ _ _ h => h) (Or.inl ⟨by as_aux_lemma => rfl, ?yc6⟩) (by assumption) ?qc6
      case yc6 => (intro wz hSw; (try dsimp only at hSw); go_simp <;> with_reducible rfl)
      try simp only [Act.put, List.getElem_toArray, List.getElem_cons_zero, List.getElem_cons_succ, List.setIfInBounds_toArray, List.set_cons_zero, List.set_cons_succ]
      refine wpAnyH_take (i := 7) (v := ?_) rfl (by as_aux_lemma => kernel_rfl) (by as_aux_lemma => kernel_rfl) (by as_aux_lemma => kernel_rfl) (fun _ _ _ h => h) (Or.inl ⟨by as_aux_lemma => rfl, ?yc7⟩) (by assumption) ?qc7
      case yc7 => (intro wz hSw; (try dsimp only at hSw); go_simp <;> with_reducible rfl)
      try simp only [Act.put, List.getElem_toArray, List.getElem_cons_zero, List.getElem_cons_succ, List.setIfInBounds_toArray, List.set_cons_zero, List.set_cons_succ]
      refine wpAnyH_take (i := 9) (v := ?_) rfl (by as_aux_lemma => kernel_rfl) (by as_aux_lemma => kernel_rfl) (by as_aux_lemma => kernel_rfl) (fun _ _ _ h => h) (Or.inl ⟨by as_aux_lemma => rfl, ?yc9⟩) (by assumption) ?qc9
      case yc9 => (intro wz hSw; (try dsimp only at hSw); go_simp <;> with_reducible rfl)
      try simp only [Act.put, List.getElem_toArray, List.getElem_cons_zero, List.getElem_cons_succ, List.setIfInBounds_toArray, List.set_cons_zero, List.set_cons_succ]
      refine wpAnyH_ready (rs := [8]) (by as_aux_lemma => kernel_rfl) (by simp) ?_
      refine AllReadyH.cons rfl (fun K hK => ?_) AllReadyH.nil
      go_simp
      refine (pslist (HX.out _ B0'.out).2.1.1 (t := T3) (root := rt3) HT.out.2.2.2.2.1 HT.out.2.2.2.2.2.2.1).mono ?_
      rintro e u3 ⟨x8, rfl, hown, hb⟩
      have hx := hown.ints (by rw [HT.out.2.2.2.2.2.1]; have := HSM.out.2; omega)
      rw [HT.out.2.2.2.2.2.1] at hx
      have F8 : Hid (Lst.Ints 0 u3 x8 t.vals) := Lib.hid hx
      have hb8 := Lib.hid hb
      have B3 := Lib.hid (Below.trans (show Below wz.heap.size wz _ from B0'.out) (hb.mono (show wz.heap.size ≤ _ from Below.size B0'.out)))
      clear hb hown hx
      refine hK.out _ _ (HX.out _ B3.out).1 (fun hHeld3 => ?_)
      clear hK K
      try simp only [Act.put, List.getElem_toArray, List.getElem_cons_zero, List.getElem_cons_succ, List.setIfInBounds_toArray, List.set_cons_zero, List.set_cons_succ]
      refine wpAnyH_ready (rs := [10]) (by as_aux_lemma => kernel_rfl) (by simp) ?_
      refine AllReadyH.cons rfl (fun K hK => ?_) AllReadyH.nil
      go_simp
      refine (pslist (HX.out _ B3.out).2.1.1 (t := t) (root := r) HT.out.2.2.1 HSM.out.1).mono ?_
      rintro e u4 ⟨x10, rfl, hown, hb⟩
      have hx := hown.ints (by skip; have := HSM.out.2; omega)
      have F10 : Hid (Lst.Ints 0 u4 x10 t.vals) := Lib.hid hx
      have hb10 := Lib.hid hb
      have B4 := Lib.hid (Below.trans (show Below wz.heap.size wz _ from B3.out) (hb.mono (show wz.heap.size ≤ _ from Below.size B3.out)))
      clear hb hown hx
      refine hK.out _ _ (HX.out _ B4.out).1 (fun hHeld4 => ?_)
      clear hK K
      try simp only [Act.put, List.getElem_toArray, List.getElem_cons_zero, List.getElem_cons_succ, List.setIfInBounds_toArray, List.set_cons_zero, List.set_cons_succ]
      refine wpAnyH_ready (rs := [11]) (by as_aux_lemma => kernel_rfl) (by simp) ?_
      refine AllReadyH.cons rfl (fun K hK => ?_) AllReadyH.nil
      go_simp
      refine (sameI_yes (F8.out.below hb10.out) F10.out).mono ?_
      rintro e u5 ⟨rfl, hb⟩
      have B5 := Lib.hid (Below.trans (show Below wz.heap.size wz _ from B4.out) (hb.mono (show wz.heap.size ≤ _ from Below.size B4.out)))
      clear hb
      refine hK.out _ _ (HX.out _ B5.out).1 (fun hHeld5 => ?_)
      clear hK K
      try simp only [Act.put, List.getElem_toArray, List.getElem_cons_zero, List.getElem_cons_succ, List.setIfInBounds_toArray, List.set_cons_zero, List.set_cons_succ]
      refine wpAnyH_take (i := 12) (v := ?_) rfl (by as_aux_lemma => kernel_rfl) (by as_aux_lemma => kernel_rfl) (by as_aux_lemma => kernel_rfl) (fun _ _ _ h => h) (Or.inl ⟨by as_aux_lemma => rfl, ?yc12⟩) (by assumption) ?qc12
      case yc12 => (intro wz hSw; (try dsimp only at hSw); go_simp <;> with_reducible rfl)
      try simp only [Act.put, List.getElem_toArray, List.getElem_cons_zero, List.getElem_cons_succ, List.setIfInBounds_toArray, List.set_cons_zero, List.set_cons_succ]
      refine wpAnyH_take (i := 13) (v := ?_) rfl (by as_aux_lemma => kernel_rfl) (by as_aux_lemma => kernel_rfl) (by as_aux_lemma => kernel_rfl) (fun _ _ _ h => h) (Or.inl ⟨by as_aux_lemma => rfl, ?yc13⟩) (by assumption) ?qc13
      case yc13 => (intro wz hSw; (try dsimp only at hSw); go_simp <;> with_reducible rfl)
      try simp only [Act.put, List.getElem_toArray, List.getElem_cons_zero, List.getElem_cons_succ, List.setIfInBounds_toArray, List.set_cons_zero, List.set_cons_succ]
      refine wpAnyH_take (i := 14) (v := ?_) rfl (by as_aux_lemma => kernel_rfl) (by as_aux_lemma => kernel_rfl) (by as_aux_lemma => kernel_rfl) (fun _ _ _ h => h) (Or.inl ⟨by as_aux_lemma => rfl, ?yc14⟩) (by assumption) ?qc14
      case yc14 => (intro wz hSw; (try dsimp only at hSw); go_simp <;> with_reducible rfl)
      try simp only [Act.put, List.getElem_toArray, List.getElem_cons_zero, List.getElem_cons_succ, List.setIfInBounds_toArray, List.set_cons_zero, List.set_cons_succ]
      refine wpAnyH_take (i := 15) (v := ?_) rfl (by as_aux_lemma => kernel_rfl) (by as_aux_lemma => kernel_rfl) (by as_aux_lemma => kernel_rfl) (fun _ _ _ h => h) (Or.inl ⟨by as_aux_lemma => rfl, ?yc15⟩) (by assumption) ?qc15
      case yc15 => (intro wz hSw; (try dsimp only at hSw); go_simp <;> with_reducible rfl)
      try simp only [Act.put, List.getElem_toArray, List.getElem_cons_zero, List.getElem_cons_succ, List.setIfInBounds_toArray, List.set_cons_zero, List.set_cons_succ]
      refine wpAnyH_take (i := 17) (v := ?_) rfl (by as_aux_lemma => kernel_rfl) (by as_aux_lemma => kernel_rfl) (by as_aux_lemma => kernel_rfl) (fun _ _ _ h => h) (Or.inl ⟨by as_aux_lemma => rfl, ?yc17⟩) (by assumption) ?qc17
      case yc17 => (intro wz hSw; (try dsimp only at hSw); go_simp <;> with_reducible rfl)
      try simp only [Act.put, List.getElem_toArray, List.getElem_cons_zero, List.getElem_cons_succ, List.setIfInBounds_toArray, List.set_cons_zero, List.set_cons_succ]
      refine wpAnyH_ready (rs := [16]) (by as_aux_lemma => kernel_rfl) (by simp) ?_
      refine AllReadyH.cons rfl (fun K hK => ?_) AllReadyH.nil
      go_simp
      refine (pslen (HX.out _ B5.out).2.1.1 (t := T2) (root := rt2) HT.out.2.2.2.1).mono ?_
      rintro e u6 ⟨he, hb⟩
      rw [HT.out.2.2.2.2.2.2.2.1] at he
      subst he
      have B6 := Lib.hid (Below.trans (show Below wz.heap.size wz _ from B5.out) (hb.mono (show wz.heap.size ≤ _ from Below.size B5.out)))
      clear hb
      refine hK.out _ _ (HX.out _ B6.out).1 (fun hHeld6 => ?_)
      clear hK K
      try simp only [Act.put, List.getElem_toArray, List.getElem_cons_zero, List.getElem_cons_succ, List.setIfInBounds_toArray, List.set_cons_zero, List.set_cons_succ]
      refine wpAnyH_ready (rs := [18]) (by as_aux_lemma => kernel_rfl) (by simp) ?_
      refine AllReadyH.cons rfl (fun K hK => ?_) AllReadyH.nil
      go_simp
      refine (pslen (HX.out _ B6.out).2.1.1 (t := t) (root := r) HT.out.2.2.1).mono ?_
      rintro e u7 ⟨he, hb⟩
      rw [HL.out.1] at he
      subst he
      have B7 := Lib.hid (Below.trans (show Below wz.heap.size wz _ from B6.out) (hb.mono (show wz.heap.size ≤ _ from Below.size B6.out)))
      clear hb
      refine hK.out _ _ (HX.out _ B7.out).1 (fun hHeld7 => ?_)
      clear hK K
      try simp only [Act.put, List.getElem_toArray, List.getElem_cons_zero, List.getElem_cons_succ, List.setIfInBounds_toArray, List.set_cons_zero, List.set_cons_succ]
      refine wpAnyH_take (i := 19) (v := ?_) rfl (by as_aux_lemma => kernel_rfl) (by as_aux_lemma => kernel_rfl) (by as_aux_lemma => kernel_rfl) (fun _ _ _ h => h) (Or.inl ⟨by as_aux_lemma => rfl, ?yc19⟩) (by assumption) ?qc19
      case yc19 => (intro wz hSw; (try dsimp only at hSw); go_simp <;> with_reducible rfl)
      try simp only [Act.put, List.getElem_toArray, List.getElem_cons_zero, List.getElem_cons_succ, List.setIfInBounds_toArray, List.set_cons_zero, List.set_cons_succ]
      refine wpAnyH_take (i := 20) (v := ?_) rfl (by as_aux_lemma => kernel_rfl) (by as_aux_lemma => kernel_rfl) (by as_aux_lemma => kernel_rfl) (fun _ _ _ h => h) (Or.inl ⟨by as_aux_lemma => rfl, ?yc20⟩) (by assumption) ?qc20
      case yc20 => (intro wz hSw; (try dsimp only at hSw); go_simp <;> with_reducible rfl)
      try simp only [Act.put, List.getElem_toArray, List.getElem_cons_zero, List.getElem_cons_succ, List.setIfInBounds_toArray, List.set_cons_zero, List.set_cons_succ]
      refine wpAnyH_take (i := 21) (v := ?_) rfl (by as_aux_lemma => kernel_rfl) (by as_aux_lemma => kernel_rfl) (by as_aux_lemma => kernel_rfl) (fun _ _ _ h => h) (Or.inl ⟨by as_aux_lemma => rfl, ?yc21⟩) (by assumption) ?qc21
      case yc21 => (intro wz hSw; (try dsimp only at hSw); go_simp <;> with_reducible rfl)
      try simp only [Act.put, List.getElem_toArray, List.getElem_cons_zero, List.getElem_cons_succ, List.setIfInBounds_toArray, List.set_cons_zero, List.set_cons_succ]
      refine wpAnyH_done (by as_aux_lemma => kernel_rfl) ?_ _
      have PX := Lib.hid ((HX.out _ B7.out).2.drop (bs' := (g4, ob4) :: (b10, boxS (.pointer pa) rt2) :: (g5, ob5) :: es) (by intro q hq; simp only [List.mem_cons] at hq ⊢; rcases hq with h | h | h | h <;> simp [h]))
      obtain ⟨hlx, y0, y1⟩ := cellsS (PX.out.2.2 (b10, boxS (.pointer pa) rt2) (by simp)).1
      have HD : Hid (∀ q ∈ (g4, ob4) :: (g5, ob5) :: es, q.1 ≠ b10) := Lib.hid fun q hq => by have := HLO.out q hq; have := H78.out; have := H810.out; omega
      have PA := Lib.hid (PX.out.below ((Below.refl _ _).alloc (Nat.le_refl _) (.cells #[(.pointer pa), .int .i64 rt2] 27)))
      clear HX PX hw HSM HLO H78 H810 HDK
      go_wp2_with (refine append_seq (g' := u7.heap.size) rfl (.tmp 84) (.tmp 86) rfl HI.out.2.2.2.1.2.1 (PA.out.2.2 (g4, ob4) (by simp)).1 rfl rfl (heap_alloc_at _ _ _ (by first | rfl | simp)) (by omega) ?_; intro c4' w7 g4' ob4' hr4 hp4 hg4 he4; have PB := Lib.hid (PA.out.grow (p' := (g4', ob4')) (by intro q hq; simp only [List.mem_cons] at hq; rcases hq with h | h | h; exact h ▸ fun e => HD.out (g4, ob4) (by simp) e.symm; exact h ▸ HI.out.2.2.2.1.2.2.2.2.1 (g5, ob5) (by simp); exact HI.out.2.2.2.1.2.2.2.2.1 q (List.mem_cons_of_mem _ h)) HI.out.2.1 hg4 hp4 he4); obtain ⟨hb9, y0, y1⟩ := cellsS (PB.out.1.2.2 (b10, boxS (.pointer pa) rt2) (by simp)).1; have HR4 := Lib.hid hr4; clear hr4 hp4 hg4 he4 PA)
      refine (pslist PB.out.1.1.1 (t := T2) (root := rt2) HT.out.2.2.2.1 (by have := HT.out.2.2.2.2.2.2.2.2; omega)).mono ?_
      rintro e w8 ⟨vl, rfl, hol, hb⟩
      obtain ⟨nb, PC, hLV, hnb⟩ := PS.ints PB.out.1 hb (ownI_mono hol (by omega))
      obtain ⟨pl, cl, hvl, _⟩ := hLV.form
      subst hvl
      have HLV := Lib.hid hLV
      have HNB : Hid ((∀ q ∈ nb, q.1 ≠ g4' ∧ q.1 ≠ g5) ∧ g5 ≠ g4') := Lib.hid ⟨fun q hq => by
        have h1 := hnb q hq
        have h2 := heap_lt (PB.out.1.2.2 (g4', ob4') (by simp)).1
        have h3 := heap_lt (PB.out.1.2.2 (g5, ob5) (by simp)).1
        simp only at h2 h3
        omega, PB.out.2.1 (g5, ob5) (by simp)⟩
      have PC2 := Lib.hid (PC.drop (bs' := (g5, ob5) :: (g4', ob4') :: (nb ++ es)) (by intro q hq; simp only [List.mem_cons, List.mem_append] at hq ⊢; rcases hq with h | h | h | h <;> simp [h]))
      have HES := Lib.hid PB.out.2
      clear hol hb hLV hnb PC PB y0 y1 hb9
      have PD := Lib.hid (PC2.out.below ((Below.refl _ _).alloc (Nat.le_refl _) (.cells #[.slice pl T2.vals.length cl] 29)))
      clear PC2
      go_wp2_with (refine append_lst (g' := w8.heap.size) rfl (.tmp 88) (.tmp 91) rfl HI.out.2.2.2.1.2.2.1 (PD.out.2.2 (g5, ob5) (by simp)).1 rfl rfl (heap_alloc_at _ _ _ (by first | rfl | simp)) (by omega) ?_; intro c5' w9 g5' ob5' hr5 hp5 hg5 he5; have PE := Lib.hid (PD.out.grow (p' := (g5', ob5')) (by intro q hq; simp only [List.mem_cons, List.mem_append] at hq; rcases hq with h | h | h; exact h ▸ fun e => HNB.out.2 e.symm; exact (HNB.out.1 q h).2; exact HI.out.2.2.2.1.2.2.2.2.2.1 q h) HI.out.2.2.1 hg5 hp5 he5); have HR5 := Lib.hid hr5; clear hr5 hp5 hg5 he5 PD)
      have HF : Hid (Nx (n + 1) (k + 1) ∧ w.heap.size ≤ g4' ∧ w.heap.size ≤ g5' ∧ EA (.pointer pa) zs3 (n + 1) (g4', ob4') (g5', ob5') (.slice (some ⟨g4', 0, none⟩) (n + 1) c4') (.slice (some ⟨g5', 0, none⟩) (n + 1) c5') (nb ++ es) (l ++ [(T2, rt2, .slice pl T2.vals.length cl)]) ∧ PS w w9 (.pointer pa) o3 65536 zs3 (.slice none 0 0) [] ((g4', ob4') :: (g5', ob5') :: (nb ++ es))) := Lib.hid ⟨congrArg (· + 1) HI.out.1, HES.out.2, PE.out.2.2, HI.out.2.2.2.1.next HT.out.1 HT.out.2.1 ⟨HT.out.2.2.2.1, HT2.out.2.1, HT2.out.2.2.1, HT.out.2.2.2.2.2.2.2.2⟩ HLV.out HR4.out HR5.out (fun q hq => by
        simp only [List.mem_cons, List.mem_append] at hq
        rcases hq with h | h | h
        · exact h ▸ fun e => PE.out.2.1 (g4', ob4') (by simp) e.symm
        · exact (HNB.out.1 q h).1
        · exact HES.out.1 q (by simp [h])) (fun q hq => PE.out.2.1 q (List.mem_cons_of_mem _ hq)), PE.out.1.drop (by intro q hq; simp only [List.mem_cons] at hq ⊢; rcases hq with h | h | h <;> simp [h])⟩
      clear PE HR5 HR4 HLV HNB HES HD HI
      go_roundw
      case rel => exact ⟨k + 1, n + 1, _, o3, zs3, g4', g5', c4', c5', ob4', ob5', nb ++ es, by go_num, by go_num, by go_num, by omega, HF⟩
      case measure => simp [intOf]; omega
    · have e : k = D.length := by omega
      subst e
      clear HC HOK
      obtain ⟨wA, hwA⟩ : ∃ wA, wA = wr := ⟨_, rfl⟩
      subst hwA
      have hn1 : n ≤ 61 := by have := HI.out.1; unfold Nx at this; omega
      have BB0 : Hid (Below wA.heap.size wA wA) := Lib.hid (Below.refl _ _)
      go_wp2_with fail
      go_loopw [96] (fun s96 wz => ∃ j : Nat, s96 = .int .i64 (j : Int) ∧ j ≤ n ∧ Hid (Below wA.heap.size wA wz)) (fun s96 _ => n - (intOf s96).toNat)
      case atStart => exact ⟨0, rfl, Nat.zero_le _, BB0⟩
      case round =>
        clear BB0
        obtain ⟨j, rfl, hj, BB⟩ := hrel
        obtain ⟨wx, hwx⟩ : ∃ wx, wx = wr := ⟨_, rfl⟩
        subst hwx
        by_cases hjn : j < n
        · obtain ⟨t, r, v, hm, f0, f1, f2⟩ := ent_at (.pointer pa) l j (by rw [HI.out.2.2.2.1.1]; exact hjn)
          have HE := Lib.hid (HI.out.2.2.2.1.2.2.2.1 t r v hm)
          have PW := Lib.hid (HI.out.2.2.2.2.below BB.out)
          obtain ⟨_, _, rfl, _, hc4, hcells⟩ := HI.out.2.2.2.1.2.1.open_
          obtain ⟨hg4, hcell⟩ := hcells wx (PW.out.2.2 (g4, ob4) (by simp)).1
          have c0 := (hcell (j * 2) (by omega)).trans f0
          have c1 := (hcell (j * 2 + 1) (by omega)).trans f1
          obtain ⟨_, _, rfl, _, hc5, hcells5⟩ := HI.out.2.2.2.1.2.2.1.open_
          have HC5 : Hid (∀ X, Below wA.heap.size wA X → X.cell? ⟨g5, j, none⟩ = some v) := Lib.hid fun X hX => by
            obtain ⟨_, hcell⟩ := hcells5 X ((HI.out.2.2.2.2.below hX).2.2 (g5, ob5) (by simp)).1
            exact (hcell j (by omega)).trans f2
          have HPL : Hid (∀ X, Below wA.heap.size wA X → Lst.Ints 0 X v t.vals) := Lib.hid fun X hX => HE.out.2.2.2.2.ints (fun q hq => ((HI.out.2.2.2.2.below hX).2.2 q (List.mem_cons_of_mem _ (List.mem_cons_of_mem _ hq))).1) (by rw [Tre.vals_len]; have := HE.out.2.2.2.1; omega)
          obtain ⟨pl, cl, hv, _⟩ := HE.out.2.2.2.2.form
          generalize hcn : t.vals.length = cn at hv
          clear hcn
          subst hv
          clear hcell hcells hcells5 f0 f1
          simp only at hg4 c0 c1
          have hh : t.high ≤ 12 := high_le HE.out.2.2.1 (n := 61) (Nat.le_trans HE.out.2.2.2.1 hn1) (by decide)
          have hL4 : t.size ≤ 61 := Nat.le_trans HE.out.2.2.2.1 hn1
          have hpw := bal_size t HE.out.2.2.1
          have HT : Hid (t.size < 65536 ∧ t.vals.length ≤ 65536) := Lib.hid ⟨by omega, by rw [Tre.vals_len]; omega⟩
          obtain ⟨b15, hb15⟩ : ∃ b, b = wx.heap.size := ⟨_, rfl⟩
          have PW2 := Lib.hid (PW.out.addAt (boxS (.pointer pa) r) hb15)
          have HY : Hid (Below wx.heap.size wx (wx.alloc (boxS (.pointer pa) r))) := Lib.hid ((Below.refl _ _).alloc (Nat.le_refl _) _)
          obtain ⟨wy, hwy⟩ : ∃ wy, wy = wx.alloc (boxS (.pointer pa) r) := ⟨_, rfl⟩
          rw [← hwy] at HY PW2
          unfold boxS at hwy
          go_upto_region 25 with fail
          rw [← hb15, ← hwy]
          clear hwy hb15 PW c0 c1
          have HX : Hid (∀ X, Below wy.heap.size wy X → (X.cell? ⟨b15, 0, none⟩ = some (.pointer pa) ∧ X.cell? ⟨b15, 1, none⟩ = some (.int .i64 r) ∧ X.cell? ⟨g5, j, none⟩ = some (.slice pl cn cl)) ∧ PS w X (.pointer pa) o 65536 zs (.slice none 0 0) [] ((b15, boxS (.pointer pa) r) :: (g4, ob4) :: (g5, ob5) :: es) ∧ Lst.Ints 0 X (.slice pl cn cl) t.vals) := Lib.hid fun X hX => by
            have h := PW2.out.below hX
            have h15 := cellsS (h.2.2 (b15, boxS (.pointer pa) r) (by simp)).1
            have hA : Below wA.heap.size wA X := BB.out.trans ((HY.out.trans (hX.mono HY.out.size)).mono BB.out.size)
            exact ⟨⟨h15.2.1, h15.2.2, HC5.out X hA⟩, h, HPL.out X hA⟩
          have B0' : Hid (Below wy.heap.size wy wy.drew) := Lib.hid (below_drewN (Below.refl _ _) 1)
          obtain ⟨L, hL⟩ : ∃ L, L = t.size := ⟨_, rfl⟩
          obtain ⟨H, hH⟩ : ∃ H, H = t.high := ⟨_, rfl⟩
          have HLH : Hid ((t.size : Int) = (L : Int) ∧ (t.high : Int) = (H : Int)) := Lib.hid ⟨by rw [hL], by rw [hH]⟩
          rw [← hL] at hpw hL4
          rw [← hH] at hpw hh
          clear hL hH
          have hp2 : (2 : Int) ^ H ≤ ((L : Int) + 1) * ((L : Int) + 1) := by exact_mod_cast hpw
          have hm : ((L : Int) + 1) * ((L : Int) + 1) ≤ 62 * 62 := Int.mul_le_mul (by omega) (by omega) (by omega) (by omega)
          have hp0 : (0 : Int) < (2 : Int) ^ H := Int.pow_pos (by omega)
          have ew0 : IntKind.i64.wrap ((L : Int) + 1) = (L : Int) + 1 := IntWalk.i64_in _ (by omega)
          have ew1 : IntKind.i64.wrap (((L : Int) + 1) * ((L : Int) + 1)) = ((L : Int) + 1) * ((L : Int) + 1) := IntWalk.i64_in _ (by have : (0 : Int) ≤ ((L : Int) + 1) * ((L : Int) + 1) := Int.mul_nonneg (by omega) (by omega); omega)
          have ew2 : IntKind.i64.wrap ((2 : Int) ^ H) = (2 : Int) ^ H := IntWalk.i64_in _ (by omega)
          have hlt2 : decide (((L : Int) + 1) * ((L : Int) + 1) < (2 : Int) ^ H) = false := by rw [decide_eq_false_iff_not]; omega
          have hH0 : decide ((H : Int) < 0) = false := by rw [decide_eq_false_iff_not]; omega
          have hH40 : decide ((40 : Int) < (H : Int)) = false := by rw [decide_eq_false_iff_not]; omega
          have hH64 : (H : Int) ≤ 64 := by omega
          have hHn : (0 : Int) ≤ (H : Int) := by omega
          have ew3 : IntKind.u64.wrap (H : Int) = (H : Int) := by rw [IntKind.wrap_u64]; omega
          clear hpw hm hp2 hp0 hL4
          refine wp_region_held_drew (S := (fun X => X.cell? ⟨b15, 0, none⟩ = some (.pointer pa) ∧ X.cell? ⟨b15, 1, none⟩ = some (.int .i64 r) ∧ X.cell? ⟨g5, j, none⟩ = some (.slice pl cn cl))) (by as_aux_lemma => kernel_rfl) (HX.out _ B0'.out).1 (fun hHeld0 => ?_)
          refine wpAnyH_take (i := 0) (v := ?_) rfl (by as_aux_lemma => kernel_rfl) (by as_aux_lemma => kernel_rfl) (by as_aux_lemma => kernel_rfl) (fun _ _ _ h => h) (Or.inl ⟨by as_aux_lemma => rfl, ?ye0⟩) (by assumption) ?qe0
          case ye0 => (intro wz hSw; (try dsimp only at hSw); go_simp <;> with_reducible rfl)
          try simp only [Act.put, List.getElem_toArray, List.getElem_cons_zero, List.setIfInBounds_toArray, List.set_cons_zero, List.set_cons_succ]
          refine wpAnyH_take (i := 2) (v := ?_) rfl (by as_aux_lemma => kernel_rfl) (by as_aux_lemma => kernel_rfl) (by as_aux_lemma => kernel_rfl) (fun _ _ _ h => h) (Or.inl ⟨by as_aux_lemma => rfl, ?ye2⟩) (by assumption) ?qe2
          case ye2 => (intro wz hSw; (try dsimp only at hSw); go_simp <;> with_reducible rfl)
          try simp only [Act.put, List.getElem_toArray, List.getElem_cons_zero, List.getElem_cons_succ, List.setIfInBounds_toArray, List.set_cons_zero, List.set_cons_succ]
          refine wpAnyH_take (i := 3) (v := ?_) rfl (by as_aux_lemma => kernel_rfl) (by as_aux_lemma => kernel_rfl) (by as_aux_lemma => kernel_rfl) (fun _ _ _ h => h) (Or.inl ⟨by as_aux_lemma => rfl, ?ye3⟩) (by assumption) ?qe3
          case ye3 => (intro wz hSw; (try dsimp only at hSw); go_simp <;> with_reducible rfl)
          try simp only [Act.put, List.getElem_toArray, List.getElem_cons_zero, List.getElem_cons_succ, List.setIfInBounds_toArray, List.set_cons_zero, List.set_cons_succ]
          refine wpAnyH_take (i := 4) (v := ?_) rfl (by as_aux_lemma => kernel_rfl) (by as_aux_lemma => kernel_rfl) (by as_aux_lemma => kernel_rfl) (fun _ _ _ h => h) (Or.inl ⟨by as_aux_lemma => rfl, ?ye4⟩) (by assumption) ?qe4
          case ye4 => (intro wz hSw; (try dsimp only at hSw); go_simp <;> with_reducible rfl)
          try simp only [Act.put, List.getElem_toArray, List.getElem_cons_zero, List.getElem_cons_succ, List.setIfInBounds_toArray, List.set_cons_zero, List.set_cons_succ]
          refine wpAnyH_take (i := 5) (v := ?_) rfl (by as_aux_lemma => kernel_rfl) (by as_aux_lemma => kernel_rfl) (by as_aux_lemma => kernel_rfl) (fun _ _ _ h => h) (Or.inl ⟨by as_aux_lemma => rfl, ?ye5⟩) (by assumption) ?qe5
          case ye5 => (intro wz hSw; (try dsimp only at hSw); go_simp <;> with_reducible rfl)
          try simp only [Act.put, List.getElem_toArray, List.getElem_cons_zero, List.getElem_cons_succ, List.setIfInBounds_toArray, List.set_cons_zero, List.set_cons_succ]
          refine wpAnyH_ready (rs := [1]) (by as_aux_lemma => kernel_rfl) (by simp) ?_
          refine AllReadyH.cons rfl (fun K hK => ?_) AllReadyH.nil
          go_simp
          refine (pslist (HX.out _ B0'.out).2.1.1.1 (t := t) (root := r) HE.out.1 HT.out.1).mono ?_
          rintro e u1 ⟨x1, rfl, hown, hb⟩
          have hx := hown.ints (by have := HT.out.2; omega)
          have F1 : Hid (Lst.Ints 0 u1 x1 t.vals) := Lib.hid hx
          have hb1 := Lib.hid hb
          have B1 := Lib.hid (Below.trans (show Below wy.heap.size wy _ from B0'.out) (hb.mono (show wy.heap.size ≤ _ from Below.size B0'.out)))
          clear hb hown hx
          refine hK.out _ _ (HX.out _ B1.out).1 (fun hHeld1 => ?_)
          clear hK K
          try simp only [Act.put, List.getElem_toArray, List.getElem_cons_zero, List.getElem_cons_succ, List.setIfInBounds_toArray, List.set_cons_zero, List.set_cons_succ]
          refine wpAnyH_ready (rs := [6]) (by as_aux_lemma => kernel_rfl) (by simp) ?_
          refine AllReadyH.cons rfl (fun K hK => ?_) AllReadyH.nil
          go_simp
          refine (sameI_yes F1.out (HX.out _ B1.out).2.2).mono ?_
          rintro e u2 ⟨rfl, hb⟩
          have B2 := Lib.hid (Below.trans (show Below wy.heap.size wy _ from B1.out) (hb.mono (show wy.heap.size ≤ _ from Below.size B1.out)))
          clear hb
          refine hK.out _ _ (HX.out _ B2.out).1 (fun hHeld2 => ?_)
          clear hK K
          try simp only [Act.put, List.getElem_toArray, List.getElem_cons_zero, List.getElem_cons_succ, List.setIfInBounds_toArray, List.set_cons_zero, List.set_cons_succ]
          refine wpAnyH_take (i := 7) (v := ?_) rfl (by as_aux_lemma => kernel_rfl) (by as_aux_lemma => kernel_rfl) (by as_aux_lemma => kernel_rfl) (fun _ _ _ h => h) (Or.inl ⟨by as_aux_lemma => rfl, ?ye7⟩) (by assumption) ?qe7
          case ye7 => (intro wz hSw; (try dsimp only at hSw); go_simp <;> with_reducible rfl)
          try simp only [Act.put, List.getElem_toArray, List.getElem_cons_zero, List.getElem_cons_succ, List.setIfInBounds_toArray, List.set_cons_zero, List.set_cons_succ]
          refine wpAnyH_take (i := 8) (v := ?_) rfl (by as_aux_lemma => kernel_rfl) (by as_aux_lemma => kernel_rfl) (by as_aux_lemma => kernel_rfl) (fun _ _ _ h => h) (Or.inl ⟨by as_aux_lemma => rfl, ?ye8⟩) (by assumption) ?qe8
          case ye8 => (intro wz hSw; (try dsimp only at hSw); go_simp <;> with_reducible rfl)
          try simp only [Act.put, List.getElem_toArray, List.getElem_cons_zero, List.getElem_cons_succ, List.setIfInBounds_toArray, List.set_cons_zero, List.set_cons_succ]
          refine wpAnyH_take (i := 9) (v := ?_) rfl (by as_aux_lemma => kernel_rfl) (by as_aux_lemma => kernel_rfl) (by as_aux_lemma => kernel_rfl) (fun _ _ _ h => h) (Or.inl ⟨by as_aux_lemma => rfl, ?ye9⟩) (by assumption) ?qe9
          case ye9 => (intro wz hSw; (try dsimp only at hSw); go_simp <;> with_reducible rfl)
          try simp only [Act.put, List.getElem_toArray, List.getElem_cons_zero, List.getElem_cons_succ, List.setIfInBounds_toArray, List.set_cons_zero, List.set_cons_succ]
          refine wpAnyH_ready (rs := [10]) (by as_aux_lemma => kernel_rfl) (by simp) ?_
          refine AllReadyH.cons rfl (fun K hK => ?_) AllReadyH.nil
          go_simp
          refine (pshigh (HX.out _ B2.out).2.1.1.1 (t := t) (root := r) HE.out.1).mono ?_
          rintro e u3 ⟨he, hb⟩
          rw [HLH.out.2] at he
          subst he
          have B3 := Lib.hid (Below.trans (show Below wy.heap.size wy _ from B2.out) (hb.mono (show wy.heap.size ≤ _ from Below.size B2.out)))
          clear hb
          refine hK.out _ _ (HX.out _ B3.out).1 (fun hHeld3 => ?_)
          clear hK K
          try simp only [Act.put, List.getElem_toArray, List.getElem_cons_zero, List.getElem_cons_succ, List.setIfInBounds_toArray, List.set_cons_zero, List.set_cons_succ]
          refine wpAnyH_take (i := 11) (v := ?_) rfl (by as_aux_lemma => kernel_rfl) (by as_aux_lemma => kernel_rfl) (by as_aux_lemma => kernel_rfl) (fun _ _ _ h => h) (Or.inl ⟨by as_aux_lemma => rfl, ?ye11⟩) (by assumption) ?qe11
          case ye11 => (intro wz hSw; (try dsimp only at hSw); go_simp <;> with_reducible rfl)
          try simp only [Act.put, List.getElem_toArray, List.getElem_cons_zero, List.getElem_cons_succ, List.setIfInBounds_toArray, List.set_cons_zero, List.set_cons_succ]
          refine wpAnyH_take (i := 12) (v := ?_) rfl (by as_aux_lemma => kernel_rfl) (by as_aux_lemma => kernel_rfl) (by as_aux_lemma => kernel_rfl) (fun _ _ _ h => h) (Or.inl ⟨by as_aux_lemma => rfl, ?ye12⟩) (by assumption) ?qe12
          case ye12 => (intro wz hSw; (try dsimp only at hSw); go_simp <;> with_reducible rfl)
          try simp only [Act.put, List.getElem_toArray, List.getElem_cons_zero, List.getElem_cons_succ, List.setIfInBounds_toArray, List.set_cons_zero, List.set_cons_succ]
          refine wpAnyH_take (i := 13) (v := ?_) rfl (by as_aux_lemma => kernel_rfl) (by as_aux_lemma => kernel_rfl) (by as_aux_lemma => kernel_rfl) (fun _ _ _ h => h) (Or.inl ⟨by as_aux_lemma => rfl, ?ye13⟩) (by assumption) ?qe13
          case ye13 => (intro wz hSw; (try dsimp only at hSw); go_simp <;> with_reducible rfl)
          try simp only [Act.put, List.getElem_toArray, List.getElem_cons_zero, List.getElem_cons_succ, List.setIfInBounds_toArray, List.set_cons_zero, List.set_cons_succ]
          refine wpAnyH_take (i := 14) (v := ?_) rfl (by as_aux_lemma => kernel_rfl) (by as_aux_lemma => kernel_rfl) (by as_aux_lemma => kernel_rfl) (fun _ _ _ h => h) (Or.inl ⟨by as_aux_lemma => rfl, ?ye14⟩) (by assumption) ?qe14
          case ye14 => (intro wz hSw; (try dsimp only at hSw); go_simp <;> with_reducible rfl)
          try simp only [Act.put, List.getElem_toArray, List.getElem_cons_zero, List.getElem_cons_succ, List.setIfInBounds_toArray, List.set_cons_zero, List.set_cons_succ]
          refine wpAnyH_ready (rs := [15]) (by as_aux_lemma => kernel_rfl) (by simp) ?_
          refine AllReadyH.cons rfl (fun K hK => ?_) AllReadyH.nil
          go_simp
          refine (pshigh (HX.out _ B3.out).2.1.1.1 (t := t) (root := r) HE.out.1).mono ?_
          rintro e u4 ⟨he, hb⟩
          rw [HLH.out.2] at he
          subst he
          have B4 := Lib.hid (Below.trans (show Below wy.heap.size wy _ from B3.out) (hb.mono (show wy.heap.size ≤ _ from Below.size B3.out)))
          clear hb
          refine hK.out _ _ (HX.out _ B4.out).1 (fun hHeld4 => ?_)
          clear hK K
          try simp only [Act.put, List.getElem_toArray, List.getElem_cons_zero, List.getElem_cons_succ, List.setIfInBounds_toArray, List.set_cons_zero, List.set_cons_succ]
          refine wpAnyH_take (i := 16) (v := ?_) rfl (by as_aux_lemma => kernel_rfl) (by as_aux_lemma => kernel_rfl) (by as_aux_lemma => kernel_rfl) (fun _ _ _ h => h) (Or.inl ⟨by as_aux_lemma => rfl, ?ye16⟩) (by assumption) ?qe16
          case ye16 => (intro wz hSw; (try dsimp only at hSw); go_simp <;> with_reducible rfl)
          try simp only [Act.put, List.getElem_toArray, List.getElem_cons_zero, List.getElem_cons_succ, List.setIfInBounds_toArray, List.set_cons_zero, List.set_cons_succ]
          refine wpAnyH_take (i := 17) (v := ?_) rfl (by as_aux_lemma => kernel_rfl) (by as_aux_lemma => kernel_rfl) (by as_aux_lemma => kernel_rfl) (fun _ _ _ h => h) (Or.inl ⟨by as_aux_lemma => rfl, ?ye17⟩) (by assumption) ?qe17
          case ye17 => (intro wz hSw; (try dsimp only at hSw); go_simp <;> with_reducible rfl)
          try simp only [Act.put, List.getElem_toArray, List.getElem_cons_zero, List.getElem_cons_succ, List.setIfInBounds_toArray, List.set_cons_zero, List.set_cons_succ]
          refine wpAnyH_take (i := 18) (v := ?_) rfl (by as_aux_lemma => kernel_rfl) (by as_aux_lemma => kernel_rfl) (by as_aux_lemma => kernel_rfl) (fun _ _ _ h => h) (Or.inl ⟨by as_aux_lemma => rfl, ?ye18⟩) (by assumption) ?qe18
          case ye18 => (intro wz hSw; (try dsimp only at hSw); go_simp <;> with_reducible rfl)
          try simp only [Act.put, List.getElem_toArray, List.getElem_cons_zero, List.getElem_cons_succ, List.setIfInBounds_toArray, List.set_cons_zero, List.set_cons_succ]
          refine wpAnyH_take (i := 19) (v := ?_) rfl (by as_aux_lemma => kernel_rfl) (by as_aux_lemma => kernel_rfl) (by as_aux_lemma => kernel_rfl) (fun _ _ _ h => h) (Or.inl ⟨by as_aux_lemma => rfl, ?ye19⟩) (by assumption) ?qe19
          case ye19 => (intro wz hSw; (try dsimp only at hSw); go_simp <;> with_reducible rfl)
          try simp only [Act.put, List.getElem_toArray, List.getElem_cons_zero, List.getElem_cons_succ, List.setIfInBounds_toArray, List.set_cons_zero, List.set_cons_succ]
          refine wpAnyH_take (i := 23) (v := ?_) rfl (by as_aux_lemma => kernel_rfl) (by as_aux_lemma => kernel_rfl) (by as_aux_lemma => kernel_rfl) (fun _ _ _ h => h) (Or.inl ⟨by as_aux_lemma => rfl, ?ye23⟩) (by assumption) ?qe23
          case ye23 => (intro wz hSw; (try dsimp only at hSw); go_simp <;> with_reducible rfl)
          try simp only [Act.put, List.getElem_toArray, List.getElem_cons_zero, List.getElem_cons_succ, List.setIfInBounds_toArray, List.set_cons_zero, List.set_cons_succ]
          refine wpAnyH_take (i := 26) (v := ?_) rfl (by as_aux_lemma => kernel_rfl) (by as_aux_lemma => kernel_rfl) (by as_aux_lemma => kernel_rfl) (fun _ _ _ h => h) (Or.inl ⟨by as_aux_lemma => rfl, ?ye26⟩) (by assumption) ?qe26
          case ye26 => (intro wz hSw; (try dsimp only at hSw); go_simp <;> with_reducible rfl)
          try simp only [Act.put, List.getElem_toArray, List.getElem_cons_zero, List.getElem_cons_succ, List.setIfInBounds_toArray, List.set_cons_zero, List.set_cons_succ]
          refine wpAnyH_ready (rs := [20]) (by as_aux_lemma => kernel_rfl) (by simp) ?_
          refine AllReadyH.cons rfl (fun K hK => ?_) AllReadyH.nil
          go_simp
          refine (pshigh (HX.out _ B4.out).2.1.1.1 (t := t) (root := r) HE.out.1).mono ?_
          rintro e u5 ⟨he, hb⟩
          rw [HLH.out.2] at he
          subst he
          have B5 := Lib.hid (Below.trans (show Below wy.heap.size wy _ from B4.out) (hb.mono (show wy.heap.size ≤ _ from Below.size B4.out)))
          clear hb
          refine hK.out _ _ (HX.out _ B5.out).1 (fun hHeld5 => ?_)
          clear hK K
          try simp only [Act.put, List.getElem_toArray, List.getElem_cons_zero, List.getElem_cons_succ, List.setIfInBounds_toArray, List.set_cons_zero, List.set_cons_succ]
          refine wpAnyH_take (i := 21) (v := ?_) rfl (by as_aux_lemma => kernel_rfl) (by as_aux_lemma => kernel_rfl) (by as_aux_lemma => kernel_rfl) (fun _ _ _ h => h) (Or.inl ⟨by as_aux_lemma => rfl, ?ye21⟩) (by assumption) ?qe21
          case ye21 => (intro wz hSw; (try dsimp only at hSw); go_simp <;> with_reducible rfl)
          try simp only [Act.put, List.getElem_toArray, List.getElem_cons_zero, List.getElem_cons_succ, List.setIfInBounds_toArray, List.set_cons_zero, List.set_cons_succ]
          refine wpAnyH_take (i := 22) (v := ?_) rfl (by as_aux_lemma => kernel_rfl) (by as_aux_lemma => kernel_rfl) (by as_aux_lemma => kernel_rfl) (fun _ _ _ h => h) (Or.inl ⟨by as_aux_lemma => rfl, ?ye22⟩) (by assumption) ?qe22
          case ye22 => (intro wz hSw; (try dsimp only at hSw); go_simp <;> with_reducible rfl)
          try simp only [Act.put, List.getElem_toArray, List.getElem_cons_zero, List.getElem_cons_succ, List.setIfInBounds_toArray, List.set_cons_zero, List.set_cons_succ]
          refine wpAnyH_ready (rs := [24]) (by as_aux_lemma => kernel_rfl) (by simp) ?_
          refine AllReadyH.cons rfl (fun K hK => ?_) AllReadyH.nil
          go_simp
          refine (pslen (HX.out _ B5.out).2.1.1.1 (t := t) (root := r) HE.out.1).mono ?_
          rintro e u6 ⟨he, hb⟩
          rw [HLH.out.1] at he
          subst he
          have B6 := Lib.hid (Below.trans (show Below wy.heap.size wy _ from B5.out) (hb.mono (show wy.heap.size ≤ _ from Below.size B5.out)))
          clear hb
          refine hK.out _ _ (HX.out _ B6.out).1 (fun hHeld6 => ?_)
          clear hK K
          try simp only [Act.put, List.getElem_toArray, List.getElem_cons_zero, List.getElem_cons_succ, List.setIfInBounds_toArray, List.set_cons_zero, List.set_cons_succ]
          refine wpAnyH_take (i := 25) (v := ?_) rfl (by as_aux_lemma => kernel_rfl) (by as_aux_lemma => kernel_rfl) (by as_aux_lemma => kernel_rfl) (fun _ _ _ h => h) (Or.inl ⟨by as_aux_lemma => rfl, ?ye25⟩) (by assumption) ?qe25
          case ye25 => (intro wz hSw; (try dsimp only at hSw); go_simp <;> with_reducible rfl)
          try simp only [Act.put, List.getElem_toArray, List.getElem_cons_zero, List.getElem_cons_succ, List.setIfInBounds_toArray, List.set_cons_zero, List.set_cons_succ]
          refine wpAnyH_ready (rs := [27]) (by as_aux_lemma => kernel_rfl) (by simp) ?_
          refine AllReadyH.cons rfl (fun K hK => ?_) AllReadyH.nil
          go_simp
          refine (pslen (HX.out _ B6.out).2.1.1.1 (t := t) (root := r) HE.out.1).mono ?_
          rintro e u7 ⟨he, hb⟩
          rw [HLH.out.1] at he
          subst he
          have B7 := Lib.hid (Below.trans (show Below wy.heap.size wy _ from B6.out) (hb.mono (show wy.heap.size ≤ _ from Below.size B6.out)))
          clear hb
          refine hK.out _ _ (HX.out _ B7.out).1 (fun hHeld7 => ?_)
          clear hK K
          try simp only [Act.put, List.getElem_toArray, List.getElem_cons_zero, List.getElem_cons_succ, List.setIfInBounds_toArray, List.set_cons_zero, List.set_cons_succ]
          refine wpAnyH_take (i := 28) (v := ?_) rfl (by as_aux_lemma => kernel_rfl) (by as_aux_lemma => kernel_rfl) (by as_aux_lemma => kernel_rfl) (fun _ _ _ h => h) (Or.inl ⟨by as_aux_lemma => rfl, ?ye28⟩) (by assumption) ?qe28
          case ye28 => (intro wz hSw; (try dsimp only at hSw); go_simp <;> with_reducible rfl)
          try simp only [Act.put, List.getElem_toArray, List.getElem_cons_zero, List.getElem_cons_succ, List.setIfInBounds_toArray, List.set_cons_zero, List.set_cons_succ]
          refine wpAnyH_take (i := 29) (v := ?_) rfl (by as_aux_lemma => kernel_rfl) (by as_aux_lemma => kernel_rfl) (by as_aux_lemma => kernel_rfl) (fun _ _ _ h => h) (Or.inl ⟨by as_aux_lemma => rfl, ?ye29⟩) (by assumption) ?qe29
          case ye29 => (intro wz hSw; (try dsimp only at hSw); go_simp <;> with_reducible rfl)
          try simp only [Act.put, List.getElem_toArray, List.getElem_cons_zero, List.getElem_cons_succ, List.setIfInBounds_toArray, List.set_cons_zero, List.set_cons_succ]
          refine wpAnyH_take (i := 30) (v := ?_) rfl (by as_aux_lemma => kernel_rfl) (by as_aux_lemma => kernel_rfl) (by as_aux_lemma => kernel_rfl) (fun _ _ _ h => h) (Or.inl ⟨by as_aux_lemma => rfl, ?ye30⟩) (by assumption) ?qe30
          case ye30 => (intro wz hSw; (try dsimp only at hSw); go_simp <;> with_reducible rfl)
          try simp only [Act.put, List.getElem_toArray, List.getElem_cons_zero, List.getElem_cons_succ, List.setIfInBounds_toArray, List.set_cons_zero, List.set_cons_succ]
          refine wpAnyH_take (i := 31) (v := ?_) rfl (by as_aux_lemma => kernel_rfl) (by as_aux_lemma => kernel_rfl) (by as_aux_lemma => kernel_rfl) (fun _ _ _ h => h) (Or.inl ⟨by as_aux_lemma => rfl, ?ye31⟩) (by assumption) ?qe31
          case ye31 => (intro wz hSw; (try dsimp only at hSw); go_simp <;> with_reducible rfl)
          try simp only [Act.put, List.getElem_toArray, List.getElem_cons_zero, List.getElem_cons_succ, List.setIfInBounds_toArray, List.set_cons_zero, List.set_cons_succ]
          refine wpAnyH_done (by as_aux_lemma => kernel_rfl) ?_ _
          have BF := Lib.hid (BB.out.trans ((HY.out.trans (Below.mono B7.out HY.out.size)).mono BB.out.size))
          go_wp2_with fail
          go_roundw
          case rel => exact ⟨j + 1, by go_num, by omega, BF⟩
          case measure => simp [intOf]; omega
        · have e : j = n := by omega
          subst e
          have PW := Lib.hid (HI.out.2.2.2.2.below BB.out)
          go_wp2_with fail
          go_ret
          exact ⟨rfl, PW.out.1.2.1⟩
end Go.Proofs.Ytpbkclciipmonaa.Q
