/-
  MapStays, walked over what lives tells. Not a statement of the seat.
-/
import Derived.Test.YtpmimngngehmlaaPmEnt
import Derived.Test.YtpmimngngehmlaaPmPick
namespace Go.Proofs.Ytpmimngngehmlaa.mapStays
open Go.ChangeShapes Go.WideShapes Go.ChangeAt Go.RowKit Base F
theorem same_two {ba : Nat} {v u : Value} {l : List Pai} {w : World} (ha : OwnPai ba w v l) (hb : Pais 0 w u l) (hl : l.length ≤ 100000) : Calls Try.prog 21 #[v, u] w fun e w' => e = .returned (.bool true) ∧ Below w.heap.size w w' :=
  (same_ref v u l l w (ha.list (by omega)) hb hl).mono fun _ _ ⟨h, n, h2⟩ => ⟨by rw [h, (sameL_iff l l).2 rfl], by rw [h2]; exact below_drewN (Below.refl _ _) n⟩
def Nx (n k : Nat) : Prop := n = k + 1
def boxE (d : Dd6) : Obj := .cells #[.int .i64 d.kind, .int .i64 d.from_, .int .i64 d.key, .int .i64 d.val] 34
theorem cellsE {w : World} {g : Nat} {d : Dd6} (h : w.heap[g]? = some (boxE d)) : g < w.heap.size ∧ w.cell? ⟨g, 0, none⟩ = some (.int .i64 d.kind) ∧ w.cell? ⟨g, 1, none⟩ = some (.int .i64 d.from_) ∧ w.cell? ⟨g, 2, none⟩ = some (.int .i64 d.key) ∧ w.cell? ⟨g, 3, none⟩ = some (.int .i64 d.val) := by
  refine ⟨heap_lt h, ?_⟩
  unfold boxE at h
  simp [World.cell?, h]
set_option maxHeartbeats 40000000 in
set_option maxRecDepth 100000 in
theorem main (HLV : ∀ w : World, Calls Try.prog 12 #[] w fun e w' => e = .returned (.bool true) ∧ Below w.heap.size w w')
    (v : Value) (D : List Dd6) (w : World) (hl : Dd6s 0 w v D) (hok : ∀ x ∈ D, x.ok) :
    Calls Try.prog 4 #[v] w fun e w' => e = .returned (.bool true) ∧ Below w.heap.size w w' := by
  obtain ⟨p, cp, rfl, hl1, hc⟩ := hl.open_
  clear hl
  have HC := Lib.hid hc
  have HOK : Hid (∀ k, k < D.length → (D.getD k Dd6.zero).ok) := Lib.hid fun k hk => hok _ (by rw [List.getD_eq_getElem?_getD, List.getElem?_eq_getElem hk]; exact List.getElem_mem hk)
  clear hc hok
  go_enter Try.func4, Try.ntmps4
  go_wp2_with fail
  refine (HLV w).mono ?_
  rintro e wl ⟨rfl, hbl⟩
  have B0 := Lib.hid hbl
  clear hbl
  by_cases h1 : 60 < D.length
  · clear HC HOK
    go_wp2
    go_ret
    exact ⟨rfl, B0.out⟩
  have h2 : D.length ≤ 60 := by omega
  go_wp2_with fail
  refine (arnew_any 65536 wl).mono ?_
  rintro e w1 ⟨rfl, hA, hb⟩
  rw [show roomOf 65536 = 65536 by decide] at hA
  have P0 : Hid (PS w w1 (.pointer (some ⟨wl.heap.size, 0, none⟩)) none 65536 [] (.slice none 0 0) [] []) := Lib.hid ⟨AI.new hA (B0.out.trans (hb.mono B0.out.size)) B0.out.size, QS.nil _ _ _, fun p hp => by cases hp⟩
  clear hA hb
  go_wp2_with fail
  refine (pmnew P0.out.1.1).mono ?_
  rintro e w2 ⟨rfl, hb⟩
  have P1 := Lib.hid ((((P0.out.below hb).addAt (.cells #[(.pointer (some ⟨wl.heap.size, 0, none⟩)), .int .i64 0] 27) rfl).addAt (g := w2.heap.size + 1) (.cells #[.slice none 0 0] 29) (by simp)).drop (bs' := (w2.heap.size, .cells #[(.pointer (some ⟨wl.heap.size, 0, none⟩)), .int .i64 0] 27) :: (w2.heap.size + 1, .cells #[.slice none 0 0] 29) :: []) (by intro q hq; simp only [List.mem_cons] at hq ⊢; rcases hq with h | h | h <;> simp [h]))
  have HI0 : Hid (Nx 1 0 ∧ w.heap.size ≤ w2.heap.size ∧ w.heap.size ≤ w2.heap.size + 1 ∧ EA (.pointer (some ⟨wl.heap.size, 0, none⟩)) [] 1 (w2.heap.size, .cells #[(.pointer (some ⟨wl.heap.size, 0, none⟩)), .int .i64 0] 27) (w2.heap.size + 1, .cells #[.slice none 0 0] 29) (.slice (some ⟨w2.heap.size, 0, none⟩) 1 1) (.slice (some ⟨w2.heap.size + 1, 0, none⟩) 1 1) [] [(.nil, 0, .slice none 0 0)] ∧ PS w _ (.pointer (some ⟨wl.heap.size, 0, none⟩)) none 65536 [] (.slice none 0 0) [] ((w2.heap.size, .cells #[(.pointer (some ⟨wl.heap.size, 0, none⟩)), .int .i64 0] 27) :: (w2.heap.size + 1, .cells #[.slice none 0 0] 29) :: [])) := Lib.hid ⟨rfl, (P0.out.below hb).1.2.1.size, Nat.le_succ_of_le (P0.out.below hb).1.2.1.size, EA.first _ _ _ (by omega), P1.out⟩
  clear hb P0 P1
  go_wp2_with fail
  go_loopw [4, 5, 27] (fun s4 s5 s27 wr => ∃ (k n : Nat) (l : List Ent) (o : Option Nat) (zs : List Cel) (g4 g5 c4 c5 : Nat) (ob4 ob5 : Obj) (es : List (Nat × Obj)), s4 = .slice (some ⟨g4, 0, none⟩) n c4 ∧ s5 = .slice (some ⟨g5, 0, none⟩) n c5 ∧ s27 = .int .i64 (k : Int) ∧ k ≤ D.length ∧ Hid (Nx n k ∧ w.heap.size ≤ g4 ∧ w.heap.size ≤ g5 ∧ EA (.pointer (some ⟨wl.heap.size, 0, none⟩)) zs n (g4, ob4) (g5, ob5) (.slice (some ⟨g4, 0, none⟩) n c4) (.slice (some ⟨g5, 0, none⟩) n c5) es l ∧ PS w wr (.pointer (some ⟨wl.heap.size, 0, none⟩)) o 65536 zs (.slice none 0 0) [] ((g4, ob4) :: (g5, ob5) :: es))) (fun _ _ s27 _ => D.length - (intOf s27).toNat)
  case atStart => exact ⟨0, 1, _, none, [], _, _, 1, 1, _, _, [], rfl, rfl, rfl, Nat.zero_le _, HI0⟩
  case round =>
    clear HI0
    obtain ⟨k, n, l, o, zs, g4, g5, c4, c5, ob4, ob5, es, rfl, rfl, rfl, hk, HI⟩ := hrel
    by_cases hlt : k < D.length
    · obtain ⟨g', o', rfl, _, hg, d0, d1, d2, d3⟩ := HC.out k hlt
      have hn : n ≤ 61 ∧ 0 < n := by have := HI.out.1; unfold Nx at this; omega
      have hn1 := hn.1
      have d0 := (HI.out.2.2.2.2.1.2.1.cell (p := ⟨g', _, none⟩) hg).trans d0
      have d1 := (HI.out.2.2.2.2.1.2.1.cell (p := ⟨g', _, none⟩) hg).trans d1
      have d2 := (HI.out.2.2.2.2.1.2.1.cell (p := ⟨g', _, none⟩) hg).trans d2
      have d3 := (HI.out.2.2.2.2.1.2.1.cell (p := ⟨g', _, none⟩) hg).trans d3
      have hg := Nat.lt_of_lt_of_le hg HI.out.2.2.2.2.1.2.1.size
      have HDK := Lib.hid (HOK.out k hlt)
      generalize D.getD k Dd6.zero = d at d0 d1 d2 d3 HDK
      have P1 := Lib.hid (HI.out.2.2.2.2.addAt (boxE d) rfl)
      go_wp2_with fail
      refine (pmpick d.from_ n _ hn.2 (by omega)).mono ?_
      rintro e wx ⟨i, hi, rfl, rfl⟩
      obtain ⟨t, r, v, hm, f0, f1, f2⟩ := ent_at (.pointer (some ⟨wl.heap.size, 0, none⟩)) l i (by rw [HI.out.2.2.2.1.1]; exact hi)
      have HE := Lib.hid (HI.out.2.2.2.1.2.2.2.1 t r v hm)
      obtain ⟨_, _, rfl, _, hc4, hcells⟩ := HI.out.2.2.2.1.2.1.open_
      obtain ⟨hg4, hcell⟩ := hcells wr (HI.out.2.2.2.2.2.2 (g4, ob4) (by simp)).1
      have c0 := (hcell (i * 2) (by omega)).trans f0
      have c1 := (hcell (i * 2 + 1) (by omega)).trans f1
      clear hcell hcells f0 f1 f2 hm
      simp only at hg4 c0 c1
      have P2 := Lib.hid (P1.out.addAt (g := wr.heap.size + 1) (boxM (.pointer (some ⟨wl.heap.size, 0, none⟩)) r) (by simp))
      clear P1 d0 d1 d2 d3
      go_wp2_with fail
      refine (pmput ⟨d.key, d.val⟩ ⟨HDK.out.2.2.1, HDK.out.2.2.2⟩ P2.out.1.1 (t := t) (root := r) HE.out.1 (by have := HE.out.2.2.2.1; omega)).mono ?_
      intro e w3 hp
      obtain ⟨rt2, why, zs2, hs, hM⟩ := hp.step
      obtain ⟨rfl, o2, P3⟩ := P2.out.step hs
      have H2 := Lib.hid (put_room hn.1 ⟨HE.out.2.1, HE.out.2.2.1, HE.out.2.2.2.1⟩ HI.out.2.2.2.1.2.2.2.2.2.2 hM.out)
      obtain rfl : why = 0 := H2.out.1
      have HW3 : Hid (w.heap.size ≤ w3.heap.size) := Lib.hid P3.out.1.2.1.size
      have HD : Hid (∀ q ∈ (wr.heap.size + 1, boxM (.pointer (some ⟨wl.heap.size, 0, none⟩)) r) :: (wr.heap.size, boxE d) :: (g4, ob4) :: (g5, ob5) :: es, q.1 ≠ w3.heap.size) := Lib.hid fun q hq e => Nat.lt_irrefl _ (Nat.lt_of_lt_of_eq (heap_lt (P3.out.2.2 q hq).1) e.symm)
      have P4 := Lib.hid (P3.out.addAt (boxM (.pointer (some ⟨wl.heap.size, 0, none⟩)) rt2) rfl)
      obtain ⟨hb7, e0, e1, e2, e3⟩ := cellsE (P3.out.2.2 (wr.heap.size, boxE d) (by simp)).1
      obtain ⟨hb8, m0, m1⟩ := cellsM (P3.out.2.2 (wr.heap.size + 1, boxM (.pointer (some ⟨wl.heap.size, 0, none⟩)) r) (by simp)).1
      clear hp hs hM P2 P3 c0 c1 hc4 hg4 hi
      by_cases k3 : d.kind = 3
      · have k3' : (d.kind == 3) = true := by rw [beq_iff_eq]; exact k3
        have k3n : (d.kind != 3) = false := by rw [k3]; rfl
        clear k3
        by_cases hh : t.has d.key = true
        · go_wp2_with fail
          refine (pmdel d.key P4.out.1.1 (t := t) (root := r) (by obtain ⟨new, he⟩ := H2.out.2.1; rw [he]; exact HE.out.1.append _) (by have := HE.out.2.2.2.1; omega) hh).mono ?_
          intro e w5 hp
          obtain ⟨rt3, why, zs3, hs, hM⟩ := hp.step
          obtain ⟨rfl, o3, P5⟩ := P4.out.step hs
          have H3 := Lib.hid (del_room hn.1 ⟨HE.out.2.1, HE.out.2.2.1, HE.out.2.2.2.1⟩ hh H2.out.2.1 H2.out.2.2.1 hM.out)
          obtain rfl : why = 0 := H3.out.1
          have HT : Hid ((∃ new, zs3 = zs ++ new) ∧ zs3.length ≤ 80 * (n + 1) ∧ (Tr zs3 (Tre.del d.key t) rt3 ∧ SortL (Tre.del d.key t).list ∧ (Tre.del d.key t).bal ∧ (Tre.del d.key t).size ≤ n + 1)) := Lib.hid H3.out.2
          clear hp hs hM P4 e0 e1 e2 e3 m0 m1 hb7 hb8
          go_wp2_with (first | (refine wpList_store_map rfl (.tmp 9) (.tmp 56) rfl w3.heap.size (some ⟨wl.heap.size, 0, none⟩) (some ⟨wl.heap.size, 0, none⟩) rt3 rt2 rfl rfl (P5.out.2.2 (w3.heap.size, boxM (.pointer (some ⟨wl.heap.size, 0, none⟩)) rt2) (by simp)).1 ?_; intro w6 hst; have P6 := Lib.hid (P5.out.store HD.out HW3.out hst); obtain ⟨hb7, e0, e1, e2, e3⟩ := cellsE (P6.out.2.2 (wr.heap.size, boxE d) (by simp)).1; obtain ⟨hb9, m0, m1⟩ := cellsM (P6.out.2.2 (w3.heap.size, boxM (.pointer (some ⟨wl.heap.size, 0, none⟩)) rt3) (by simp)).1; clear hst P5; have PX := Lib.hid (P6.out.drop (bs' := (g4, ob4) :: (w3.heap.size, boxM (.pointer (some ⟨wl.heap.size, 0, none⟩)) rt3) :: (g5, ob5) :: es) (by intro q hq; simp only [List.mem_cons] at hq ⊢; rcases hq with h | h | h | h <;> simp [h])); have PA := Lib.hid (PX.out.below ((Below.refl _ _).alloc (Nat.le_refl _) (.cells #[(.pointer (some ⟨wl.heap.size, 0, none⟩)), .int .i64 rt3] 27))); clear P6 PX) | (refine append_map (g' := w6.heap.size) rfl (.tmp 69) (.tmp 71) rfl HI.out.2.2.2.1.2.1 (PA.out.2.2 (g4, ob4) (by simp)).1 rfl rfl (heap_alloc_at _ _ _ (by first | rfl | simp)) (by omega) ?_; intro c4' w7 g4' ob4' hr4 hp4 hg4 he4; have PB := Lib.hid (PA.out.grow (p' := (g4', ob4')) (by intro q hq; simp only [List.mem_cons] at hq; rcases hq with h | h | h; exact h ▸ fun e => HD.out (g4, ob4) (by simp) e.symm; exact h ▸ HI.out.2.2.2.1.2.2.2.2.1 (g5, ob5) (by simp); exact HI.out.2.2.2.1.2.2.2.2.1 q (List.mem_cons_of_mem _ h)) HI.out.2.1 hg4 hp4 he4); obtain ⟨hb9, y0, y1⟩ := cellsM (PB.out.1.2.2 (w3.heap.size, boxM (.pointer (some ⟨wl.heap.size, 0, none⟩)) rt3) (by simp)).1; have HR4 := Lib.hid hr4; clear hr4 hp4 hg4 he4 PA))
          refine (pmlist PB.out.1.1.1 (t := (Tre.del d.key t)) (root := rt3) HT.out.2.2.1 (by have := HT.out.2.2.2.2.2; omega)).mono ?_
          rintro e w8 ⟨vl, rfl, hol, hb⟩
          obtain ⟨nb, PC, hLV, hnb⟩ := PB.out.1.list hb hol
          obtain ⟨pl, cl, hvl, _, _⟩ := (hol.list (by rw [Tre.list_len]; have := HT.out.2.2.2.2.2; omega)).open_
          subst hvl
          have HLV := Lib.hid hLV
          have HNB : Hid ((∀ q ∈ nb, q.1 ≠ g4' ∧ q.1 ≠ g5) ∧ g5 ≠ g4') := Lib.hid ⟨fun q hq => by
            have h1 := hnb q hq
            have h2 := heap_lt (PB.out.1.2.2 (g4', ob4') (by simp)).1
            have h3 := heap_lt (PB.out.1.2.2 (g5, ob5) (by simp)).1
            simp only at h2 h3
            omega, PB.out.2.1 (g5, ob5) (by simp)⟩
          have PC2 := Lib.hid (PC.drop (bs' := (g5, ob5) :: (g4', ob4') :: (nb ++ es)) (by intro q hq; simp only [List.mem_cons, List.mem_append] at hq ⊢; rcases hq with h | h | h | h <;> simp [h]))
          have HES := Lib.hid PB.out.2
          clear hol hb hLV hnb PC PB y0 y1 hb9
          have PD := Lib.hid (PC2.out.below ((Below.refl _ _).alloc (Nat.le_refl _) (.cells #[.slice pl ((Tre.del d.key t)).list.length cl] 29)))
          clear PC2
          go_wp2_with (refine append_lst (g' := w8.heap.size) rfl (.tmp 73) (.tmp 76) rfl HI.out.2.2.2.1.2.2.1 (PD.out.2.2 (g5, ob5) (by simp)).1 rfl rfl (heap_alloc_at _ _ _ (by first | rfl | simp)) (by omega) ?_; intro c5' w9 g5' ob5' hr5 hp5 hg5 he5; have PE := Lib.hid (PD.out.grow (p' := (g5', ob5')) (by intro q hq; simp only [List.mem_cons, List.mem_append] at hq; rcases hq with h | h | h; exact h ▸ fun e => HNB.out.2 e.symm; exact (HNB.out.1 q h).2; exact HI.out.2.2.2.1.2.2.2.2.2.1 q h) HI.out.2.2.1 hg5 hp5 he5); have HR5 := Lib.hid hr5; clear hr5 hp5 hg5 he5 PD)
          have HF : Hid (Nx (n + 1) (k + 1) ∧ w.heap.size ≤ g4' ∧ w.heap.size ≤ g5' ∧ EA (.pointer (some ⟨wl.heap.size, 0, none⟩)) zs3 (n + 1) (g4', ob4') (g5', ob5') (.slice (some ⟨g4', 0, none⟩) (n + 1) c4') (.slice (some ⟨g5', 0, none⟩) (n + 1) c5') (nb ++ es) (l ++ [((Tre.del d.key t), rt3, .slice pl ((Tre.del d.key t)).list.length cl)]) ∧ PS w w9 (.pointer (some ⟨wl.heap.size, 0, none⟩)) o3 65536 zs3 (.slice none 0 0) [] ((g4', ob4') :: (g5', ob5') :: (nb ++ es))) := Lib.hid ⟨congrArg (· + 1) HI.out.1, HES.out.2, PE.out.2.2, HI.out.2.2.2.1.next HT.out.1 HT.out.2.1 HT.out.2.2 HLV.out HR4.out HR5.out (fun q hq => by
              simp only [List.mem_cons, List.mem_append] at hq
              rcases hq with h | h | h
              · exact h ▸ fun e => PE.out.2.1 (g4', ob4') (by simp) e.symm
              · exact (HNB.out.1 q h).1
              · exact HES.out.1 q (by simp [h])) (fun q hq => PE.out.2.1 q (List.mem_cons_of_mem _ hq)), PE.out.1.drop (by intro q hq; simp only [List.mem_cons] at hq ⊢; rcases hq with h | h | h <;> simp [h])⟩
          clear PE HR5 HR4 HLV HNB HES HD HI
          go_roundw
          case rel => exact ⟨k + 1, n + 1, _, o3, zs3, g4', g5', c4', c5', ob4', ob5', nb ++ es, by go_num, by go_num, by go_num, by omega, HF⟩
          case measure => simp [intOf]; omega
        · have hh : t.has d.key = false := by simpa using hh
          go_wp2_with fail
          refine (pmdel_none d.key P4.out.1.1 (t := t) (root := r) (by obtain ⟨new, he⟩ := H2.out.2.1; rw [he]; exact HE.out.1.append _) hh).mono ?_
          rintro e w5 ⟨rfl, hb⟩
          have P5 := Lib.hid (P4.out.below hb)
          have HT : Hid ((∃ new, zs2 = zs ++ new) ∧ zs2.length ≤ 80 * (n + 1) ∧ (Tr zs2 .nil 0 ∧ SortL Tre.nil.list ∧ Tre.nil.bal ∧ Tre.nil.size ≤ n + 1)) := Lib.hid ⟨H2.out.2.1, by have := H2.out.2.2.1; omega, rfl, List.Pairwise.nil, trivial, Nat.zero_le _⟩
          clear hb P4 e0 e1 e2 e3 m0 m1 hb7 hb8
          go_wp2_with (first | (refine wpList_store_map rfl (.tmp 9) (.tmp 56) rfl w3.heap.size (some ⟨wl.heap.size, 0, none⟩) (some ⟨wl.heap.size, 0, none⟩) 0 rt2 rfl rfl (P5.out.2.2 (w3.heap.size, boxM (.pointer (some ⟨wl.heap.size, 0, none⟩)) rt2) (by simp)).1 ?_; intro w6 hst; have P6 := Lib.hid (P5.out.store HD.out HW3.out hst); obtain ⟨hb7, e0, e1, e2, e3⟩ := cellsE (P6.out.2.2 (wr.heap.size, boxE d) (by simp)).1; obtain ⟨hb9, m0, m1⟩ := cellsM (P6.out.2.2 (w3.heap.size, boxM (.pointer (some ⟨wl.heap.size, 0, none⟩)) 0) (by simp)).1; clear hst P5; have PX := Lib.hid (P6.out.drop (bs' := (g4, ob4) :: (w3.heap.size, boxM (.pointer (some ⟨wl.heap.size, 0, none⟩)) 0) :: (g5, ob5) :: es) (by intro q hq; simp only [List.mem_cons] at hq ⊢; rcases hq with h | h | h | h <;> simp [h])); have PA := Lib.hid (PX.out.below ((Below.refl _ _).alloc (Nat.le_refl _) (.cells #[(.pointer (some ⟨wl.heap.size, 0, none⟩)), .int .i64 0] 27))); clear P6 PX) | (refine append_map (g' := w6.heap.size) rfl (.tmp 69) (.tmp 71) rfl HI.out.2.2.2.1.2.1 (PA.out.2.2 (g4, ob4) (by simp)).1 rfl rfl (heap_alloc_at _ _ _ (by first | rfl | simp)) (by omega) ?_; intro c4' w7 g4' ob4' hr4 hp4 hg4 he4; have PB := Lib.hid (PA.out.grow (p' := (g4', ob4')) (by intro q hq; simp only [List.mem_cons] at hq; rcases hq with h | h | h; exact h ▸ fun e => HD.out (g4, ob4) (by simp) e.symm; exact h ▸ HI.out.2.2.2.1.2.2.2.2.1 (g5, ob5) (by simp); exact HI.out.2.2.2.1.2.2.2.2.1 q (List.mem_cons_of_mem _ h)) HI.out.2.1 hg4 hp4 he4); obtain ⟨hb9, y0, y1⟩ := cellsM (PB.out.1.2.2 (w3.heap.size, boxM (.pointer (some ⟨wl.heap.size, 0, none⟩)) 0) (by simp)).1; have HR4 := Lib.hid hr4; clear hr4 hp4 hg4 he4 PA))
          refine (pmlist PB.out.1.1.1 (t := Tre.nil) (root := 0) HT.out.2.2.1 (by have := HT.out.2.2.2.2.2; omega)).mono ?_
          rintro e w8 ⟨vl, rfl, hol, hb⟩
          obtain ⟨nb, PC, hLV, hnb⟩ := PB.out.1.list hb hol
          obtain ⟨pl, cl, hvl, _, _⟩ := (hol.list (by rw [Tre.list_len]; have := HT.out.2.2.2.2.2; omega)).open_
          subst hvl
          have HLV := Lib.hid hLV
          have HNB : Hid ((∀ q ∈ nb, q.1 ≠ g4' ∧ q.1 ≠ g5) ∧ g5 ≠ g4') := Lib.hid ⟨fun q hq => by
            have h1 := hnb q hq
            have h2 := heap_lt (PB.out.1.2.2 (g4', ob4') (by simp)).1
            have h3 := heap_lt (PB.out.1.2.2 (g5, ob5) (by simp)).1
            simp only at h2 h3
            omega, PB.out.2.1 (g5, ob5) (by simp)⟩
          have PC2 := Lib.hid (PC.drop (bs' := (g5, ob5) :: (g4', ob4') :: (nb ++ es)) (by intro q hq; simp only [List.mem_cons, List.mem_append] at hq ⊢; rcases hq with h | h | h | h <;> simp [h]))
          have HES := Lib.hid PB.out.2
          clear hol hb hLV hnb PC PB y0 y1 hb9
          have PD := Lib.hid (PC2.out.below ((Below.refl _ _).alloc (Nat.le_refl _) (.cells #[.slice pl (Tre.nil).list.length cl] 29)))
          clear PC2
          go_wp2_with (refine append_lst (g' := w8.heap.size) rfl (.tmp 73) (.tmp 76) rfl HI.out.2.2.2.1.2.2.1 (PD.out.2.2 (g5, ob5) (by simp)).1 rfl rfl (heap_alloc_at _ _ _ (by first | rfl | simp)) (by omega) ?_; intro c5' w9 g5' ob5' hr5 hp5 hg5 he5; have PE := Lib.hid (PD.out.grow (p' := (g5', ob5')) (by intro q hq; simp only [List.mem_cons, List.mem_append] at hq; rcases hq with h | h | h; exact h ▸ fun e => HNB.out.2 e.symm; exact (HNB.out.1 q h).2; exact HI.out.2.2.2.1.2.2.2.2.2.1 q h) HI.out.2.2.1 hg5 hp5 he5); have HR5 := Lib.hid hr5; clear hr5 hp5 hg5 he5 PD)
          have HF : Hid (Nx (n + 1) (k + 1) ∧ w.heap.size ≤ g4' ∧ w.heap.size ≤ g5' ∧ EA (.pointer (some ⟨wl.heap.size, 0, none⟩)) zs2 (n + 1) (g4', ob4') (g5', ob5') (.slice (some ⟨g4', 0, none⟩) (n + 1) c4') (.slice (some ⟨g5', 0, none⟩) (n + 1) c5') (nb ++ es) (l ++ [(Tre.nil, 0, .slice pl (Tre.nil).list.length cl)]) ∧ PS w w9 (.pointer (some ⟨wl.heap.size, 0, none⟩)) o2 65536 zs2 (.slice none 0 0) [] ((g4', ob4') :: (g5', ob5') :: (nb ++ es))) := Lib.hid ⟨congrArg (· + 1) HI.out.1, HES.out.2, PE.out.2.2, HI.out.2.2.2.1.next HT.out.1 HT.out.2.1 HT.out.2.2 HLV.out HR4.out HR5.out (fun q hq => by
              simp only [List.mem_cons, List.mem_append] at hq
              rcases hq with h | h | h
              · exact h ▸ fun e => PE.out.2.1 (g4', ob4') (by simp) e.symm
              · exact (HNB.out.1 q h).1
              · exact HES.out.1 q (by simp [h])) (fun q hq => PE.out.2.1 q (List.mem_cons_of_mem _ hq)), PE.out.1.drop (by intro q hq; simp only [List.mem_cons] at hq ⊢; rcases hq with h | h | h <;> simp [h])⟩
          clear PE HR5 HR4 HLV HNB HES HD HI
          go_roundw
          case rel => exact ⟨k + 1, n + 1, _, o2, zs2, g4', g5', c4', c5', ob4', ob5', nb ++ es, by go_num, by go_num, by go_num, by omega, HF⟩
          case measure => simp [intOf]; omega
      · have k3' : (d.kind == 3) = false := by rw [beq_eq_false_iff_ne]; exact k3
        have HT : Hid ((∃ new, zs2 = zs ++ new) ∧ zs2.length ≤ 80 * (n + 1) ∧ (Tr zs2 (Tre.ins d.key d.val t) rt2 ∧ SortL (Tre.ins d.key d.val t).list ∧ (Tre.ins d.key d.val t).bal ∧ (Tre.ins d.key d.val t).size ≤ n + 1)) := Lib.hid ⟨H2.out.2.1, by have := H2.out.2.2.1; omega, H2.out.2.2.2⟩
        clear k3
        have PX := Lib.hid (P4.out.drop (bs' := (g4, ob4) :: (w3.heap.size, boxM (.pointer (some ⟨wl.heap.size, 0, none⟩)) rt2) :: (g5, ob5) :: es) (by intro q hq; simp only [List.mem_cons] at hq ⊢; rcases hq with h | h | h | h <;> simp [h]))
        have PA := Lib.hid (PX.out.below ((Below.refl _ _).alloc (Nat.le_refl _) (.cells #[(.pointer (some ⟨wl.heap.size, 0, none⟩)), .int .i64 rt2] 27)))
        clear P4 PX
        go_wp2_with (refine append_map (g' := (w3.heap.size + 1)) rfl (.tmp 69) (.tmp 71) rfl HI.out.2.2.2.1.2.1 (PA.out.2.2 (g4, ob4) (by simp)).1 rfl rfl (heap_alloc_at _ _ _ (by first | rfl | simp)) (by omega) ?_; intro c4' w7 g4' ob4' hr4 hp4 hg4 he4; have PB := Lib.hid (PA.out.grow (p' := (g4', ob4')) (by intro q hq; simp only [List.mem_cons] at hq; rcases hq with h | h | h; exact h ▸ fun e => HD.out (g4, ob4) (by simp) e.symm; exact h ▸ HI.out.2.2.2.1.2.2.2.2.1 (g5, ob5) (by simp); exact HI.out.2.2.2.1.2.2.2.2.1 q (List.mem_cons_of_mem _ h)) HI.out.2.1 hg4 hp4 he4); obtain ⟨hb9, y0, y1⟩ := cellsM (PB.out.1.2.2 (w3.heap.size, boxM (.pointer (some ⟨wl.heap.size, 0, none⟩)) rt2) (by simp)).1; have HR4 := Lib.hid hr4; clear hr4 hp4 hg4 he4 PA)
        refine (pmlist PB.out.1.1.1 (t := (Tre.ins d.key d.val t)) (root := rt2) HT.out.2.2.1 (by have := HT.out.2.2.2.2.2; omega)).mono ?_
        rintro e w8 ⟨vl, rfl, hol, hb⟩
        obtain ⟨nb, PC, hLV, hnb⟩ := PB.out.1.list hb hol
        obtain ⟨pl, cl, hvl, _, _⟩ := (hol.list (by rw [Tre.list_len]; have := HT.out.2.2.2.2.2; omega)).open_
        subst hvl
        have HLV := Lib.hid hLV
        have HNB : Hid ((∀ q ∈ nb, q.1 ≠ g4' ∧ q.1 ≠ g5) ∧ g5 ≠ g4') := Lib.hid ⟨fun q hq => by
          have h1 := hnb q hq
          have h2 := heap_lt (PB.out.1.2.2 (g4', ob4') (by simp)).1
          have h3 := heap_lt (PB.out.1.2.2 (g5, ob5) (by simp)).1
          simp only at h2 h3
          omega, PB.out.2.1 (g5, ob5) (by simp)⟩
        have PC2 := Lib.hid (PC.drop (bs' := (g5, ob5) :: (g4', ob4') :: (nb ++ es)) (by intro q hq; simp only [List.mem_cons, List.mem_append] at hq ⊢; rcases hq with h | h | h | h <;> simp [h]))
        have HES := Lib.hid PB.out.2
        clear hol hb hLV hnb PC PB y0 y1 hb9
        have PD := Lib.hid (PC2.out.below ((Below.refl _ _).alloc (Nat.le_refl _) (.cells #[.slice pl ((Tre.ins d.key d.val t)).list.length cl] 29)))
        clear PC2
        go_wp2_with (refine append_lst (g' := w8.heap.size) rfl (.tmp 73) (.tmp 76) rfl HI.out.2.2.2.1.2.2.1 (PD.out.2.2 (g5, ob5) (by simp)).1 rfl rfl (heap_alloc_at _ _ _ (by first | rfl | simp)) (by omega) ?_; intro c5' w9 g5' ob5' hr5 hp5 hg5 he5; have PE := Lib.hid (PD.out.grow (p' := (g5', ob5')) (by intro q hq; simp only [List.mem_cons, List.mem_append] at hq; rcases hq with h | h | h; exact h ▸ fun e => HNB.out.2 e.symm; exact (HNB.out.1 q h).2; exact HI.out.2.2.2.1.2.2.2.2.2.1 q h) HI.out.2.2.1 hg5 hp5 he5); have HR5 := Lib.hid hr5; clear hr5 hp5 hg5 he5 PD)
        have HF : Hid (Nx (n + 1) (k + 1) ∧ w.heap.size ≤ g4' ∧ w.heap.size ≤ g5' ∧ EA (.pointer (some ⟨wl.heap.size, 0, none⟩)) zs2 (n + 1) (g4', ob4') (g5', ob5') (.slice (some ⟨g4', 0, none⟩) (n + 1) c4') (.slice (some ⟨g5', 0, none⟩) (n + 1) c5') (nb ++ es) (l ++ [((Tre.ins d.key d.val t), rt2, .slice pl ((Tre.ins d.key d.val t)).list.length cl)]) ∧ PS w w9 (.pointer (some ⟨wl.heap.size, 0, none⟩)) o2 65536 zs2 (.slice none 0 0) [] ((g4', ob4') :: (g5', ob5') :: (nb ++ es))) := Lib.hid ⟨congrArg (· + 1) HI.out.1, HES.out.2, PE.out.2.2, HI.out.2.2.2.1.next HT.out.1 HT.out.2.1 HT.out.2.2 HLV.out HR4.out HR5.out (fun q hq => by
            simp only [List.mem_cons, List.mem_append] at hq
            rcases hq with h | h | h
            · exact h ▸ fun e => PE.out.2.1 (g4', ob4') (by simp) e.symm
            · exact (HNB.out.1 q h).1
            · exact HES.out.1 q (by simp [h])) (fun q hq => PE.out.2.1 q (List.mem_cons_of_mem _ hq)), PE.out.1.drop (by intro q hq; simp only [List.mem_cons] at hq ⊢; rcases hq with h | h | h <;> simp [h])⟩
        clear PE HR5 HR4 HLV HNB HES HD HI
        go_roundw
        case rel => exact ⟨k + 1, n + 1, _, o2, zs2, g4', g5', c4', c5', ob4', ob5', nb ++ es, by go_num, by go_num, by go_num, by omega, HF⟩
        case measure => simp [intOf]; omega
    · have e : k = D.length := by omega
      subst e
      clear HC HOK
      obtain ⟨wA, hwA⟩ : ∃ wA, wA = wr := ⟨_, rfl⟩
      subst hwA
      have HNK := Lib.hid HI.out.1
      have hn1 : n ≤ 61 := by have := HI.out.1; unfold Nx at this; omega
      have BB0 : Hid (Below wA.heap.size wA wA) := Lib.hid (Below.refl _ _)
      go_wp2_with fail
      go_loopw [81] (fun s81 wz => ∃ j : Nat, s81 = .int .i64 (j : Int) ∧ j ≤ n ∧ Hid (Below wA.heap.size wA wz)) (fun s81 _ => n - (intOf s81).toNat)
      case atStart => exact ⟨0, rfl, Nat.zero_le _, BB0⟩
      case round =>
        clear BB0
        obtain ⟨j, rfl, hj, BB⟩ := hrel
        obtain ⟨wx, hwx⟩ : ∃ wx, wx = wr := ⟨_, rfl⟩
        subst hwx
        by_cases hjn : j < n
        · obtain ⟨t, r, v, hm, f0, f1, f2⟩ := ent_at (.pointer (some ⟨wl.heap.size, 0, none⟩)) l j (by rw [HI.out.2.2.2.1.1]; exact hjn)
          have HE := Lib.hid (HI.out.2.2.2.1.2.2.2.1 t r v hm)
          have PW := Lib.hid (HI.out.2.2.2.2.below BB.out)
          obtain ⟨_, _, rfl, _, hc4, hcells⟩ := HI.out.2.2.2.1.2.1.open_
          obtain ⟨hg4, hcell⟩ := hcells wx (PW.out.2.2 (g4, ob4) (by simp)).1
          have c0 := (hcell (j * 2) (by omega)).trans f0
          have c1 := (hcell (j * 2 + 1) (by omega)).trans f1
          obtain ⟨_, _, rfl, _, hc5, hcells5⟩ := HI.out.2.2.2.1.2.2.1.open_
          have HC5 : Hid (∀ X, Below wA.heap.size wA X → X.cell? ⟨g5, j, none⟩ = some v) := Lib.hid fun X hX => by
            obtain ⟨_, hcell⟩ := hcells5 X ((HI.out.2.2.2.2.below hX).2.2 (g5, ob5) (by simp)).1
            exact (hcell j (by omega)).trans f2
          have HPL : Hid (∀ X, Below wA.heap.size wA X → Pais 0 X v t.list) := Lib.hid fun X hX => HE.out.2.2.2.2.pais (fun q hq => ((HI.out.2.2.2.2.below hX).2.2 q (List.mem_cons_of_mem _ (List.mem_cons_of_mem _ hq))).1) (by rw [Tre.list_len]; have := HE.out.2.2.2.1; omega)
          obtain ⟨pl, cl, hv, _, _⟩ := (HPL.out _ BB.out).open_
          generalize hcn : t.list.length = cn at hv
          clear hcn
          subst hv
          clear hcell hcells hcells5 f0 f1
          simp only at hg4 c0 c1
          have hh : t.high ≤ 12 := high_le HE.out.2.2.1 (n := 61) (Nat.le_trans HE.out.2.2.2.1 hn1) (by decide)
          have hL4 : t.size ≤ 61 := Nat.le_trans HE.out.2.2.2.1 hn1
          have hpw := bal_size t HE.out.2.2.1
          have HT : Hid (t.size < 65536 ∧ t.list.length ≤ 100000) := Lib.hid ⟨by omega, by rw [Tre.list_len]; omega⟩
          have PW2 := Lib.hid (PW.out.addAt (boxM (.pointer (some ⟨wl.heap.size, 0, none⟩)) r) rfl)
          go_upto_region 25 with fail
          have HY : Hid (Below wx.heap.size wx (wx.alloc (boxM (.pointer (some ⟨wl.heap.size, 0, none⟩)) r))) := Lib.hid ((Below.refl _ _).alloc (Nat.le_refl _) _)
          obtain ⟨wy, hwy⟩ : ∃ wy, wy = wx.alloc (boxM (.pointer (some ⟨wl.heap.size, 0, none⟩)) r) := ⟨_, rfl⟩
          have hwy2 : wx.alloc (.cells #[(.pointer (some ⟨wl.heap.size, 0, none⟩)), .int .i64 r] 27) = wy := hwy.symm
          rw [← hwy] at HY PW2
          rw [hwy2]
          clear hwy hwy2 PW c0 c1
          have HX : Hid (∀ X, Below wy.heap.size wy X → PS w X (.pointer (some ⟨wl.heap.size, 0, none⟩)) o 65536 zs (.slice none 0 0) [] ((wx.heap.size, boxM (.pointer (some ⟨wl.heap.size, 0, none⟩)) r) :: (g4, ob4) :: (g5, ob5) :: es)) := Lib.hid fun X hX => PW2.out.below hX
          have HQ : Hid (∀ X, Below wy.heap.size wy X → Pais 0 X (.slice pl cn cl) t.list) := Lib.hid fun X hX => HPL.out X (BB.out.trans ((HY.out.trans (hX.mono HY.out.size)).mono BB.out.size))
          have HS : Hid (∀ X, Below wy.heap.size wy X → (X.cell? ⟨wx.heap.size, 0, none⟩ = some (.pointer (some ⟨wl.heap.size, 0, none⟩)) ∧ X.cell? ⟨wx.heap.size, 1, none⟩ = some (.int .i64 r)) ∧ X.cell? ⟨g5, j, none⟩ = some (.slice pl cn cl)) := Lib.hid fun X hX => ⟨(cellsM ((HX.out X hX).2.2 (wx.heap.size, boxM (.pointer (some ⟨wl.heap.size, 0, none⟩)) r) (by simp)).1).2, HC5.out X (BB.out.trans ((HY.out.trans (hX.mono HY.out.size)).mono BB.out.size))⟩
          have HH : Hid (∀ X, Below wy.heap.size wy X → Calls Try.prog 22 #[.agg #[(.pointer (some ⟨wl.heap.size, 0, none⟩)), .int .i64 r]] X (IntB (t.high : Int) X)) := Lib.hid fun X hX => pmhigh (HX.out X hX).1.1 (t := t) (root := r) HE.out.1
          have HLn : Hid (∀ X, Below wy.heap.size wy X → Calls Try.prog 23 #[.agg #[(.pointer (some ⟨wl.heap.size, 0, none⟩)), .int .i64 r]] X (IntB (t.size : Int) X)) := Lib.hid fun X hX => pmlen (HX.out X hX).1.1 (t := t) (root := r) HE.out.1
          have BB0 : Hid (Below wy.heap.size wy wy.drew) := Lib.hid (Below.refl _ _).drew
          generalize t.size = L at HLn hpw hL4
          generalize t.high = H at HH hpw hh
          have hp2 : (2 : Int) ^ H ≤ ((L : Int) + 1) * ((L : Int) + 1) := by exact_mod_cast hpw
          have hm : ((L : Int) + 1) * ((L : Int) + 1) ≤ 62 * 62 := Int.mul_le_mul (by omega) (by omega) (by omega) (by omega)
          have hp0 : (0 : Int) < (2 : Int) ^ H := Int.pow_pos (by omega)
          have ew0 : IntKind.i64.wrap ((L : Int) + 1) = (L : Int) + 1 := IntWalk.i64_in _ (by omega)
          have ew1 : IntKind.i64.wrap (((L : Int) + 1) * ((L : Int) + 1)) = ((L : Int) + 1) * ((L : Int) + 1) := IntWalk.i64_in _ (by have : (0 : Int) ≤ ((L : Int) + 1) * ((L : Int) + 1) := Int.mul_nonneg (by omega) (by omega); omega)
          have ew2 : IntKind.i64.wrap ((2 : Int) ^ H) = (2 : Int) ^ H := IntWalk.i64_in _ (by omega)
          have hlt2 : decide (((L : Int) + 1) * ((L : Int) + 1) < (2 : Int) ^ H) = false := by rw [decide_eq_false_iff_not]; omega
          have hH0 : decide ((H : Int) < 0) = false := by rw [decide_eq_false_iff_not]; omega
          have hH40 : decide ((40 : Int) < (H : Int)) = false := by rw [decide_eq_false_iff_not]; omega
          have hH64 : (H : Int) ≤ 64 := by omega
          have hHn : (0 : Int) ≤ (H : Int) := by omega
          have ew3 : IntKind.u64.wrap (H : Int) = (H : Int) := by rw [IntKind.wrap_u64]; omega
          clear hpw hm hp2 hp0 hL4
          refine wp_region_held_drew (S := (fun X => (X.cell? ⟨wx.heap.size, 0, none⟩ = some (.pointer (some ⟨wl.heap.size, 0, none⟩)) ∧ X.cell? ⟨wx.heap.size, 1, none⟩ = some (.int .i64 r)) ∧ X.cell? ⟨g5, j, none⟩ = some (.slice pl cn cl))) (by as_aux_lemma => kernel_rfl) (HS.out _ BB0.out) (fun hHeld0 => ?_)
          refine wpAnyH_take (i := 0) (v := ?_) rfl (by as_aux_lemma => kernel_rfl) (by as_aux_lemma => kernel_rfl) (by as_aux_lemma => kernel_rfl) (fun _ _ _ h => h) (Or.inl ⟨by rfl, ?yms1⟩) (by assumption) ?qms1
          case yms1 => (intro wz hSw; (try dsimp only at hSw); go_simp <;> with_reducible rfl)
          try simp only [Act.put, List.getElem_toArray, List.getElem_cons_zero, List.setIfInBounds_toArray, List.set_cons_zero, List.set_cons_succ]
          refine wpAnyH_take (i := 2) (v := ?_) rfl (by as_aux_lemma => kernel_rfl) (by as_aux_lemma => kernel_rfl) (by as_aux_lemma => kernel_rfl) (fun _ _ _ h => h) (Or.inl ⟨by rfl, ?yms2⟩) (by assumption) ?qms2
          case yms2 => (intro wz hSw; (try dsimp only at hSw); go_simp <;> with_reducible rfl)
          try simp only [Act.put, List.getElem_toArray, List.getElem_cons_zero, List.getElem_cons_succ, List.setIfInBounds_toArray, List.set_cons_zero, List.set_cons_succ]
          refine wpAnyH_take (i := 3) (v := ?_) rfl (by as_aux_lemma => kernel_rfl) (by as_aux_lemma => kernel_rfl) (by as_aux_lemma => kernel_rfl) (fun _ _ _ h => h) (Or.inl ⟨by rfl, ?yms3⟩) (by assumption) ?qms3
          case yms3 => (intro wz hSw; (try dsimp only at hSw); go_simp <;> with_reducible rfl)
          try simp only [Act.put, List.getElem_toArray, List.getElem_cons_zero, List.getElem_cons_succ, List.setIfInBounds_toArray, List.set_cons_zero, List.set_cons_succ]
          refine wpAnyH_take (i := 4) (v := ?_) rfl (by as_aux_lemma => kernel_rfl) (by as_aux_lemma => kernel_rfl) (by as_aux_lemma => kernel_rfl) (fun _ _ _ h => h) (Or.inl ⟨by rfl, ?yms4⟩) (by assumption) ?qms4
          case yms4 => (intro wz hSw; (try dsimp only at hSw); go_simp <;> with_reducible rfl)
          try simp only [Act.put, List.getElem_toArray, List.getElem_cons_zero, List.getElem_cons_succ, List.setIfInBounds_toArray, List.set_cons_zero, List.set_cons_succ]
          refine wpAnyH_take (i := 5) (v := ?_) rfl (by as_aux_lemma => kernel_rfl) (by as_aux_lemma => kernel_rfl) (by as_aux_lemma => kernel_rfl) (fun _ _ _ h => h) (Or.inl ⟨by rfl, ?yms5⟩) (by assumption) ?qms5
          case yms5 => (intro wz hSw; (try dsimp only at hSw); go_simp <;> with_reducible rfl)
          try simp only [Act.put, List.getElem_toArray, List.getElem_cons_zero, List.getElem_cons_succ, List.setIfInBounds_toArray, List.set_cons_zero, List.set_cons_succ]
          refine wpAnyH_ready (rs := [1]) (by as_aux_lemma => kernel_rfl) (by simp) ?_
          refine AllReadyH.cons rfl (fun K hK => ?_) AllReadyH.nil
          go_simp
          refine (pmlist (HX.out _ BB0.out).1.1 (t := t) (root := r) HE.out.1 HT.out.1).mono ?_
          rintro e u6 ⟨vl, rfl, hol, hb⟩
          have HOL := Lib.hid hol
          have CB6 := Lib.hid (Below.trans (show Below wy.heap.size wy _ from BB0.out) (hb.mono (show wy.heap.size ≤ _ from Below.size BB0.out)))
          clear hb hol
          refine hK.out _ _ ((HS.out _ CB6.out)) (fun hHeld6 => ?_)
          clear hK K
          try simp only [Act.put, List.getElem_toArray, List.getElem_cons_zero, List.getElem_cons_succ, List.setIfInBounds_toArray, List.set_cons_zero, List.set_cons_succ]
          refine wpAnyH_ready (rs := [6]) (by as_aux_lemma => kernel_rfl) (by simp) ?_
          refine AllReadyH.cons rfl (fun K hK => ?_) AllReadyH.nil
          go_simp
          refine (same_two HOL.out (HQ.out _ CB6.out) HT.out.2).mono ?_
          rintro e u7 ⟨rfl, hb⟩
          have CB7 := Lib.hid (Below.trans (show Below wy.heap.size wy _ from CB6.out) (hb.mono (show wy.heap.size ≤ _ from Below.size CB6.out)))
          clear hb HOL
          refine hK.out _ _ ((HS.out _ CB7.out)) (fun hHeld7 => ?_)
          clear hK K
          try simp only [Act.put, List.getElem_toArray, List.getElem_cons_zero, List.getElem_cons_succ, List.setIfInBounds_toArray, List.set_cons_zero, List.set_cons_succ]
          refine wpAnyH_take (i := 7) (v := ?_) rfl (by as_aux_lemma => kernel_rfl) (by as_aux_lemma => kernel_rfl) (by as_aux_lemma => kernel_rfl) (fun _ _ _ h => h) (Or.inl ⟨by rfl, ?yms8⟩) (by assumption) ?qms8
          case yms8 => (intro wz hSw; (try dsimp only at hSw); go_simp <;> with_reducible rfl)
          try simp only [Act.put, List.getElem_toArray, List.getElem_cons_zero, List.getElem_cons_succ, List.setIfInBounds_toArray, List.set_cons_zero, List.set_cons_succ]
          refine wpAnyH_take (i := 8) (v := ?_) rfl (by as_aux_lemma => kernel_rfl) (by as_aux_lemma => kernel_rfl) (by as_aux_lemma => kernel_rfl) (fun _ _ _ h => h) (Or.inl ⟨by rfl, ?yms9⟩) (by assumption) ?qms9
          case yms9 => (intro wz hSw; (try dsimp only at hSw); go_simp <;> with_reducible rfl)
          try simp only [Act.put, List.getElem_toArray, List.getElem_cons_zero, List.getElem_cons_succ, List.setIfInBounds_toArray, List.set_cons_zero, List.set_cons_succ]
          refine wpAnyH_take (i := 9) (v := ?_) rfl (by as_aux_lemma => kernel_rfl) (by as_aux_lemma => kernel_rfl) (by as_aux_lemma => kernel_rfl) (fun _ _ _ h => h) (Or.inl ⟨by rfl, ?yms10⟩) (by assumption) ?qms10
          case yms10 => (intro wz hSw; (try dsimp only at hSw); go_simp <;> with_reducible rfl)
          try simp only [Act.put, List.getElem_toArray, List.getElem_cons_zero, List.getElem_cons_succ, List.setIfInBounds_toArray, List.set_cons_zero, List.set_cons_succ]
          refine wpAnyH_ready (rs := [10]) (by as_aux_lemma => kernel_rfl) (by simp) ?_
          refine AllReadyH.cons rfl (fun K hK => ?_) AllReadyH.nil
          go_simp
          refine (HH.out _ CB7.out).mono ?_
          rintro e u11 ⟨rfl, hb⟩
          have CB11 := Lib.hid (Below.trans (show Below wy.heap.size wy _ from CB7.out) (hb.mono (show wy.heap.size ≤ _ from Below.size CB7.out)))
          clear hb
          refine hK.out _ _ ((HS.out _ CB11.out)) (fun hHeld11 => ?_)
          clear hK K
          try simp only [Act.put, List.getElem_toArray, List.getElem_cons_zero, List.getElem_cons_succ, List.setIfInBounds_toArray, List.set_cons_zero, List.set_cons_succ]
          refine wpAnyH_take (i := 11) (v := ?_) rfl (by as_aux_lemma => kernel_rfl) (by as_aux_lemma => kernel_rfl) (by as_aux_lemma => kernel_rfl) (fun _ _ _ h => h) (Or.inl ⟨by rfl, ?yms12⟩) (by assumption) ?qms12
          case yms12 => (intro wz hSw; (try dsimp only at hSw); go_simp <;> with_reducible rfl)
          try simp only [Act.put, List.getElem_toArray, List.getElem_cons_zero, List.getElem_cons_succ, List.setIfInBounds_toArray, List.set_cons_zero, List.set_cons_succ]
          refine wpAnyH_take (i := 12) (v := ?_) rfl (by as_aux_lemma => kernel_rfl) (by as_aux_lemma => kernel_rfl) (by as_aux_lemma => kernel_rfl) (fun _ _ _ h => h) (Or.inl ⟨by rfl, ?yms13⟩) (by assumption) ?qms13
          case yms13 => (intro wz hSw; (try dsimp only at hSw); go_simp <;> with_reducible rfl)
          try simp only [Act.put, List.getElem_toArray, List.getElem_cons_zero, List.getElem_cons_succ, List.setIfInBounds_toArray, List.set_cons_zero, List.set_cons_succ]
          refine wpAnyH_take (i := 13) (v := ?_) rfl (by as_aux_lemma => kernel_rfl) (by as_aux_lemma => kernel_rfl) (by as_aux_lemma => kernel_rfl) (fun _ _ _ h => h) (Or.inl ⟨by rfl, ?yms14⟩) (by assumption) ?qms14
          case yms14 => (intro wz hSw; (try dsimp only at hSw); go_simp <;> with_reducible rfl)
          try simp only [Act.put, List.getElem_toArray, List.getElem_cons_zero, List.getElem_cons_succ, List.setIfInBounds_toArray, List.set_cons_zero, List.set_cons_succ]
          refine wpAnyH_take (i := 14) (v := ?_) rfl (by as_aux_lemma => kernel_rfl) (by as_aux_lemma => kernel_rfl) (by as_aux_lemma => kernel_rfl) (fun _ _ _ h => h) (Or.inl ⟨by rfl, ?yms15⟩) (by assumption) ?qms15
          case yms15 => (intro wz hSw; (try dsimp only at hSw); go_simp <;> with_reducible rfl)
          try simp only [Act.put, List.getElem_toArray, List.getElem_cons_zero, List.getElem_cons_succ, List.setIfInBounds_toArray, List.set_cons_zero, List.set_cons_succ]
          refine wpAnyH_ready (rs := [15]) (by as_aux_lemma => kernel_rfl) (by simp) ?_
          refine AllReadyH.cons rfl (fun K hK => ?_) AllReadyH.nil
          go_simp
          refine (HH.out _ CB11.out).mono ?_
          rintro e u16 ⟨rfl, hb⟩
          have CB16 := Lib.hid (Below.trans (show Below wy.heap.size wy _ from CB11.out) (hb.mono (show wy.heap.size ≤ _ from Below.size CB11.out)))
          clear hb
          refine hK.out _ _ ((HS.out _ CB16.out)) (fun hHeld16 => ?_)
          clear hK K
          try simp only [Act.put, List.getElem_toArray, List.getElem_cons_zero, List.getElem_cons_succ, List.setIfInBounds_toArray, List.set_cons_zero, List.set_cons_succ]
          refine wpAnyH_take (i := 16) (v := ?_) rfl (by as_aux_lemma => kernel_rfl) (by as_aux_lemma => kernel_rfl) (by as_aux_lemma => kernel_rfl) (fun _ _ _ h => h) (Or.inl ⟨by rfl, ?yms17⟩) (by assumption) ?qms17
          case yms17 => (intro wz hSw; (try dsimp only at hSw); go_simp <;> with_reducible rfl)
          try simp only [Act.put, List.getElem_toArray, List.getElem_cons_zero, List.getElem_cons_succ, List.setIfInBounds_toArray, List.set_cons_zero, List.set_cons_succ]
          refine wpAnyH_take (i := 17) (v := ?_) rfl (by as_aux_lemma => kernel_rfl) (by as_aux_lemma => kernel_rfl) (by as_aux_lemma => kernel_rfl) (fun _ _ _ h => h) (Or.inl ⟨by rfl, ?yms18⟩) (by assumption) ?qms18
          case yms18 => (intro wz hSw; (try dsimp only at hSw); go_simp <;> with_reducible rfl)
          try simp only [Act.put, List.getElem_toArray, List.getElem_cons_zero, List.getElem_cons_succ, List.setIfInBounds_toArray, List.set_cons_zero, List.set_cons_succ]
          refine wpAnyH_take (i := 18) (v := ?_) rfl (by as_aux_lemma => kernel_rfl) (by as_aux_lemma => kernel_rfl) (by as_aux_lemma => kernel_rfl) (fun _ _ _ h => h) (Or.inl ⟨by rfl, ?yms19⟩) (by assumption) ?qms19
          case yms19 => (intro wz hSw; (try dsimp only at hSw); go_simp <;> with_reducible rfl)
          try simp only [Act.put, List.getElem_toArray, List.getElem_cons_zero, List.getElem_cons_succ, List.setIfInBounds_toArray, List.set_cons_zero, List.set_cons_succ]
          refine wpAnyH_take (i := 19) (v := ?_) rfl (by as_aux_lemma => kernel_rfl) (by as_aux_lemma => kernel_rfl) (by as_aux_lemma => kernel_rfl) (fun _ _ _ h => h) (Or.inl ⟨by rfl, ?yms20⟩) (by assumption) ?qms20
          case yms20 => (intro wz hSw; (try dsimp only at hSw); go_simp <;> with_reducible rfl)
          try simp only [Act.put, List.getElem_toArray, List.getElem_cons_zero, List.getElem_cons_succ, List.setIfInBounds_toArray, List.set_cons_zero, List.set_cons_succ]
          refine wpAnyH_take (i := 23) (v := ?_) rfl (by as_aux_lemma => kernel_rfl) (by as_aux_lemma => kernel_rfl) (by as_aux_lemma => kernel_rfl) (fun _ _ _ h => h) (Or.inl ⟨by rfl, ?yms21⟩) (by assumption) ?qms21
          case yms21 => (intro wz hSw; (try dsimp only at hSw); go_simp <;> with_reducible rfl)
          try simp only [Act.put, List.getElem_toArray, List.getElem_cons_zero, List.getElem_cons_succ, List.setIfInBounds_toArray, List.set_cons_zero, List.set_cons_succ]
          refine wpAnyH_take (i := 26) (v := ?_) rfl (by as_aux_lemma => kernel_rfl) (by as_aux_lemma => kernel_rfl) (by as_aux_lemma => kernel_rfl) (fun _ _ _ h => h) (Or.inl ⟨by rfl, ?yms22⟩) (by assumption) ?qms22
          case yms22 => (intro wz hSw; (try dsimp only at hSw); go_simp <;> with_reducible rfl)
          try simp only [Act.put, List.getElem_toArray, List.getElem_cons_zero, List.getElem_cons_succ, List.setIfInBounds_toArray, List.set_cons_zero, List.set_cons_succ]
          refine wpAnyH_ready (rs := [20]) (by as_aux_lemma => kernel_rfl) (by simp) ?_
          refine AllReadyH.cons rfl (fun K hK => ?_) AllReadyH.nil
          go_simp
          refine (HH.out _ CB16.out).mono ?_
          rintro e u23 ⟨rfl, hb⟩
          have CB23 := Lib.hid (Below.trans (show Below wy.heap.size wy _ from CB16.out) (hb.mono (show wy.heap.size ≤ _ from Below.size CB16.out)))
          clear hb
          refine hK.out _ _ ((HS.out _ CB23.out)) (fun hHeld23 => ?_)
          clear hK K
          try simp only [Act.put, List.getElem_toArray, List.getElem_cons_zero, List.getElem_cons_succ, List.setIfInBounds_toArray, List.set_cons_zero, List.set_cons_succ]
          refine wpAnyH_take (i := 21) (v := ?_) rfl (by as_aux_lemma => kernel_rfl) (by as_aux_lemma => kernel_rfl) (by as_aux_lemma => kernel_rfl) (fun _ _ _ h => h) (Or.inl ⟨by rfl, ?yms24⟩) (by assumption) ?qms24
          case yms24 => (intro wz hSw; (try dsimp only at hSw); go_simp <;> with_reducible rfl)
          try simp only [Act.put, List.getElem_toArray, List.getElem_cons_zero, List.getElem_cons_succ, List.setIfInBounds_toArray, List.set_cons_zero, List.set_cons_succ]
          refine wpAnyH_take (i := 22) (v := ?_) rfl (by as_aux_lemma => kernel_rfl) (by as_aux_lemma => kernel_rfl) (by as_aux_lemma => kernel_rfl) (fun _ _ _ h => h) (Or.inl ⟨by rfl, ?yms25⟩) (by assumption) ?qms25
          case yms25 => (intro wz hSw; (try dsimp only at hSw); go_simp <;> with_reducible rfl)
          try simp only [Act.put, List.getElem_toArray, List.getElem_cons_zero, List.getElem_cons_succ, List.setIfInBounds_toArray, List.set_cons_zero, List.set_cons_succ]
          refine wpAnyH_ready (rs := [24]) (by as_aux_lemma => kernel_rfl) (by simp) ?_
          refine AllReadyH.cons rfl (fun K hK => ?_) AllReadyH.nil
          go_simp
          refine (HLn.out _ CB23.out).mono ?_
          rintro e u26 ⟨rfl, hb⟩
          have CB26 := Lib.hid (Below.trans (show Below wy.heap.size wy _ from CB23.out) (hb.mono (show wy.heap.size ≤ _ from Below.size CB23.out)))
          clear hb
          refine hK.out _ _ ((HS.out _ CB26.out)) (fun hHeld26 => ?_)
          clear hK K
          try simp only [Act.put, List.getElem_toArray, List.getElem_cons_zero, List.getElem_cons_succ, List.setIfInBounds_toArray, List.set_cons_zero, List.set_cons_succ]
          refine wpAnyH_take (i := 25) (v := ?_) rfl (by as_aux_lemma => kernel_rfl) (by as_aux_lemma => kernel_rfl) (by as_aux_lemma => kernel_rfl) (fun _ _ _ h => h) (Or.inl ⟨by rfl, ?yms27⟩) (by assumption) ?qms27
          case yms27 => (intro wz hSw; (try dsimp only at hSw); go_simp <;> with_reducible rfl)
          try simp only [Act.put, List.getElem_toArray, List.getElem_cons_zero, List.getElem_cons_succ, List.setIfInBounds_toArray, List.set_cons_zero, List.set_cons_succ]
          refine wpAnyH_ready (rs := [27]) (by as_aux_lemma => kernel_rfl) (by simp) ?_
          refine AllReadyH.cons rfl (fun K hK => ?_) AllReadyH.nil
          go_simp
          refine (HLn.out _ CB26.out).mono ?_
          rintro e u28 ⟨rfl, hb⟩
          have CB28 := Lib.hid (Below.trans (show Below wy.heap.size wy _ from CB26.out) (hb.mono (show wy.heap.size ≤ _ from Below.size CB26.out)))
          clear hb
          refine hK.out _ _ ((HS.out _ CB28.out)) (fun hHeld28 => ?_)
          clear hK K
          try simp only [Act.put, List.getElem_toArray, List.getElem_cons_zero, List.getElem_cons_succ, List.setIfInBounds_toArray, List.set_cons_zero, List.set_cons_succ]
          refine wpAnyH_take (i := 28) (v := ?_) rfl (by as_aux_lemma => kernel_rfl) (by as_aux_lemma => kernel_rfl) (by as_aux_lemma => kernel_rfl) (fun _ _ _ h => h) (Or.inl ⟨by rfl, ?yms29⟩) (by assumption) ?qms29
          case yms29 => (intro wz hSw; (try dsimp only at hSw); go_simp <;> with_reducible rfl)
          try simp only [Act.put, List.getElem_toArray, List.getElem_cons_zero, List.getElem_cons_succ, List.setIfInBounds_toArray, List.set_cons_zero, List.set_cons_succ]
          refine wpAnyH_take (i := 29) (v := ?_) rfl (by as_aux_lemma => kernel_rfl) (by as_aux_lemma => kernel_rfl) (by as_aux_lemma => kernel_rfl) (fun _ _ _ h => h) (Or.inl ⟨by rfl, ?yms30⟩) (by assumption) ?qms30
          case yms30 => (intro wz hSw; (try dsimp only at hSw); go_simp <;> with_reducible rfl)
          try simp only [Act.put, List.getElem_toArray, List.getElem_cons_zero, List.getElem_cons_succ, List.setIfInBounds_toArray, List.set_cons_zero, List.set_cons_succ]
          refine wpAnyH_take (i := 30) (v := ?_) rfl (by as_aux_lemma => kernel_rfl) (by as_aux_lemma => kernel_rfl) (by as_aux_lemma => kernel_rfl) (fun _ _ _ h => h) (Or.inl ⟨by rfl, ?yms31⟩) (by assumption) ?qms31
          case yms31 => (intro wz hSw; (try dsimp only at hSw); go_simp <;> with_reducible rfl)
          try simp only [Act.put, List.getElem_toArray, List.getElem_cons_zero, List.getElem_cons_succ, List.setIfInBounds_toArray, List.set_cons_zero, List.set_cons_succ]
          refine wpAnyH_take (i := 31) (v := ?_) rfl (by as_aux_lemma => kernel_rfl) (by as_aux_lemma => kernel_rfl) (by as_aux_lemma => kernel_rfl) (fun _ _ _ h => h) (Or.inl ⟨by rfl, ?yms32⟩) (by assumption) ?qms32
          case yms32 => (intro wz hSw; (try dsimp only at hSw); go_simp <;> with_reducible rfl)
          try simp only [Act.put, List.getElem_toArray, List.getElem_cons_zero, List.getElem_cons_succ, List.setIfInBounds_toArray, List.set_cons_zero, List.set_cons_succ]
          refine wpAnyH_done (by as_aux_lemma => kernel_rfl) ?_ _
          have BF := Lib.hid (BB.out.trans ((HY.out.trans (Below.mono CB28.out HY.out.size)).mono BB.out.size))
          go_wp2_with fail
          go_roundw
          case rel => exact ⟨j + 1, by go_num, by omega, BF⟩
          case measure => simp [intOf]; omega
        · have e : j = n := by omega
          subst e
          have PW := Lib.hid (HI.out.2.2.2.2.below BB.out)
          go_wp2_with fail
          go_ret
          exact ⟨rfl, PW.out.1.2.1⟩
end Go.Proofs.Ytpmimngngehmlaa.mapStays
