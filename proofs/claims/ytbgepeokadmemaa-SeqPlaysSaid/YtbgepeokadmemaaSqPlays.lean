/-
  SeqPlays: the walk. Not a statement of the seat.
-/
import Derived.Test.YtbgepeokadmemaaSqMS
import Derived.Test.YtbgepeokadmemaaSqTells
namespace Go.Proofs.Ytbgepeokadmemaa.Q
open Go.ChangeShapes Go.WideShapes Go.ChangeAt Go.RowKit Go.Sort Base F BigFrame
theorem wp_alloc_one {o : Oper} {a : Act} {w : World} {K : Act → World → Prop} {Q : Exit → Act → World → Prop} (ho : o.op = .alloc 31)
    (h : ∀ g w', g = w.heap.size → w' = w.alloc (boxQ Qn.zero) → K (a.put o.dst (.pointer (some ⟨g, 0, none⟩))) w') : o.wp Try.prog a w K Q := by
  obtain ⟨dst, op, type, pos, after, guard⟩ := o
  simp only at ho
  subst ho
  go_simp
  exact h _ _ rfl rfl
theorem MS.first {w w1 w2 : World} {b room : Nat} (h : ArAt w1 b none room []) (hb : Below w.heap.size w w1) (hg : w.heap.size ≤ b) (hb2 : Below w1.heap.size w1 w2) :
    ∃ ents ars lb, MS w (w2.alloc (boxQ ⟨some ⟨b, 0, none⟩, 0, some ⟨b, 0, none⟩, none, 0, 0⟩)) 1 (w2.heap.size, boxQ ⟨some ⟨b, 0, none⟩, 0, some ⟨b, 0, none⟩, none, 0, 0⟩) (.slice (some ⟨w2.heap.size, 0, none⟩) 1 1) ents ars lb := by
  have P0 : PS w w1 (.pointer (some ⟨b, 0, none⟩)) none room [] (.slice none 0 0) [] [] := ⟨AI.new h hb hg, QS.nil _ _ _, fun p hp => by cases hp⟩
  have P1 := (P0.below hb2).add (boxQ ⟨some ⟨b, 0, none⟩, 0, some ⟨b, 0, none⟩, none, 0, 0⟩)
  obtain ⟨es', hr, hP, h0, hd⟩ := PS.switch (es := []) P1 rest_nil (fun p hp => by cases hp) (fun p hp => by cases hp)
  have hw := hb.size
  have hw2 := hb2.size
  have hone : ∀ (i : Nat) (A : AB2), [((⟨.pointer (some ⟨b, 0, none⟩), none, room, []⟩ : Arn), es')][i]? = some A → i = 0 ∧ A = (⟨.pointer (some ⟨b, 0, none⟩), none, room, []⟩, es') := fun i A hA => by
    cases i with
    | zero => exact ⟨rfl, by simpa using hA.symm⟩
    | succ i => simp at hA
  refine ⟨[⟨⟨some ⟨b, 0, none⟩, 0, some ⟨b, 0, none⟩, none, 0, 0⟩, 0, .nil⟩], [(⟨.pointer (some ⟨b, 0, none⟩), none, room, []⟩, es')], [], ⟨hP.drop fun q hq => ?_, ?_, fun i A hA => ?_, fun q hq => ?_, (fun i A hA p hp q hq => by cases hq), fun i k A B hA hB hne => ?_⟩, RowB.lit rfl, rfl, fun z hz => ?_⟩
  · simp only [flatA, List.mem_cons, List.nil_append, List.flatMap_cons, List.flatMap_nil, List.append_nil] at hq
    rcases hq with hq | hq
    · exact List.mem_append_right _ (by simp [hq])
    · exact List.mem_append_left _ hq
  · show w.heap.size ≤ w2.heap.size
    omega
  · obtain ⟨_, rfl⟩ := hone i A hA
    exact ⟨hr, h0⟩
  · simp only [flatA, List.nil_append, List.flatMap_cons, List.flatMap_nil, List.append_nil] at hq
    exact (hd q hq _ (List.mem_cons_self ..)).symm
  · obtain ⟨e1, _⟩ := hone i A hA
    obtain ⟨e2, _⟩ := hone k B hB
    omega
  · rw [List.mem_singleton.1 hz]
    exact ⟨_, es', rfl, rfl, rfl, rfl, ⟨rfl, trivial, trivial, Nat.zero_le _⟩, .inl ⟨rfl, _, _, rfl, fun _ => rfl⟩, fun x hx => by cases hx⟩
set_option maxHeartbeats 40000000 in
set_option maxRecDepth 100000 in
theorem seqplays (HLV : ∀ w : World, Calls Try.prog 4 #[] w fun e w' => e = .returned (.bool true) ∧ Below w.heap.size w w') (room : Int) {v : Value} (zs : List Dd7) (w : World) (hd : Dd7s 0 w v zs) (hok : ∀ x ∈ zs, x.ok) :
    Calls Try.prog 3 #[.int .i64 room, v] w fun e w' => e = .returned (.bool true) ∧ Below w.heap.size w w' := by
  obtain ⟨pd, cd, rfl, hzl, hcd⟩ := hd.open_
  have HC := Lib.hid hcd
  have HK0 := Lib.hid hok
  clear hcd hd hok
  by_cases h1 : 60 < zs.length
  · have d1 : (60 : Int) < (zs.length : Int) := by omega
    go_enter Try.func3, Try.ntmps3
    go_wp2_with fail
    refine (HLV w).mono ?_
    rintro e wl ⟨rfl, hb⟩
    have HB := Lib.hid hb
    clear hb
    go_wp2
    go_ret
    exact ⟨rfl, HB.out⟩
  · have d1 : decide ((60 : Int) < (zs.length : Int)) = false := by rw [decide_eq_false_iff_not]; omega
    have hz60 : zs.length ≤ 60 := by omega
    go_enter Try.func3, Try.ntmps3
    go_wp2_with fail
    refine (arnew_any room w).mono ?_
    rintro e w1 ⟨rfl, hA, hb⟩
    have HA := Lib.hid hA
    have HB := Lib.hid hb
    clear hA hb
    go_wp2_with fail
    refine (psnew (ArV.of HA.out)).mono ?_
    rintro e w2 ⟨rfl, hb⟩
    have HF0 := Lib.hid (MS.first HA.out HB.out (Nat.le_refl _) hb)
    clear hb
    obtain ⟨ents0, ars0, lb0, hM0⟩ := HF0.out
    have HM0 := Lib.hid hM0
    clear hM0 HF0
    go_wp2_with fail
    go_loopw [6, 26] (fun s6 s26 wr => ∃ (i n g6 c6 : Nat) (ob6 : Obj) (ents : List En) (ars : List AB2) (lb : List (Nat × Obj)), s26 = .int .i64 (i : Int) ∧ s6 = .slice (some ⟨g6, 0, none⟩) n c6 ∧ i ≤ zs.length ∧ 0 < n ∧ n ≤ i + 1 ∧ Hid (MS w wr n (g6, ob6) (.slice (some ⟨g6, 0, none⟩) n c6) ents ars lb)) (fun _ s26 _ => zs.length - (intOf s26).toNat)
    case atStart => exact ⟨0, 1, w2.heap.size, 1, _, ents0, ars0, lb0, rfl, rfl, Nat.zero_le _, by omega, by omega, HM0⟩
    case round =>
      clear HM0 HA HB
      obtain ⟨i, n, g6, c6, ob6, ents, ars, lb, rfl, rfl, hi, hn0, hn1, HM⟩ := hrel
      by_cases hlt : i < zs.length
      · obtain ⟨g, o, hpd, _, hg, c0, c1, c2, c3⟩ := HC.out i hlt
        have hdok : (zs.getD i Dd7.zero).ok := HK0.out _ (by rw [List.getD_eq_getElem?_getD, List.getElem?_eq_getElem hlt]; exact List.getElem_mem hlt)
        generalize zs.getD i Dd7.zero = d at c0 c1 c2 c3 hdok
        obtain ⟨dk, df, dkey, dval⟩ := d
        simp only at c0 c1 c2 c3
        have HOK : Hid ((-9223372036854775808 ≤ dkey ∧ dkey ≤ 9223372036854775807) ∧ (-9223372036854775808 ≤ dval ∧ dval ≤ 9223372036854775807)) := Lib.hid ⟨hdok.2.2.1, hdok.2.2.2⟩
        have hB := HM.out.1.1.1.2.1
        have HWR : Hid (w.heap.size ≤ wr.heap.size) := Lib.hid hB.size
        have q0 := (hB.cell (p := ⟨g, o + i * 4, none⟩) hg).trans c0
        have q1 := (hB.cell (p := ⟨g, o + i * 4 + 1, none⟩) hg).trans c1
        have q2 := (hB.cell (p := ⟨g, o + i * 4 + 2, none⟩) hg).trans c2
        have q3 := (hB.cell (p := ⟨g, o + i * 4 + 3, none⟩) hg).trans c3
        have hgs : g < wr.heap.size := Nat.lt_of_lt_of_le hg hB.size
        subst hpd
        clear c0 c1 c2 c3 hB hdok
        have hkl := pickN_lt df n hn0
        have HPK : Hid (∀ X, Calls Try.prog 8 #[.int .i64 df, .int .i64 (n : Int)] X (IntB (pickN df n : Nat) X)) := Lib.hid fun X => pspick_b df n X hn0 (by omega)
        generalize pickN df n = k at hkl HPK
        obtain ⟨z, hz, r0, r1, r2, r3⟩ := en_at ents k (by rw [HM.out.2.2.1]; exact hkl)
        obtain ⟨A, es, hj, hpv, hzm, hzn, hne, hlv⟩ := HM.out.2.2.2 z hz
        obtain ⟨⟨xm, xr, xa, xp, xn, xc⟩, zj, zt⟩ := z
        simp only at r0 r1 r2 r3 hj hpv hzm hzn hne hlv
        subst hzm hzn
        have HJ := Lib.hid (And.intro hj hpv)
        have HNE := Lib.hid hne
        have HLI := Lib.hid hlv.1
        have HBD := Lib.hid hlv.2
        obtain ⟨RB, hRB⟩ : ∃ RB, RB = lb ++ flatA (ars.eraseIdx zj) := ⟨_, rfl⟩
        have HRB := Lib.hid hRB
        have HLB : Hid (∀ q ∈ lb, q ∈ RB) := Lib.hid fun q hq => by rw [hRB]; exact List.mem_append_left _ hq
        have P0 : Hid (PS w wr (.pointer xm) A.o A.room A.zs (.slice none 0 0) [] ((g6, ob6) :: RB)) := Lib.hid (by have := HM.out.1.take hj; rw [hpv] at this; rw [hRB]; exact this)
        have HROW : Hid (∀ X : World, X.heap[g6]? = some ob6 → g6 < X.heap.size ∧ X.cell? ⟨g6, k * 4, none⟩ = some (.pointer xm) ∧ X.cell? ⟨g6, k * 4 + 1, none⟩ = some (.int .i64 xr) ∧ X.cell? ⟨g6, k * 4 + 2, none⟩ = some (.pointer xm) ∧ X.cell? ⟨g6, k * 4 + 3, none⟩ = some (.slice xp zt.vals.length xc)) := Lib.hid fun X hX => by
          obtain ⟨g', cap, e, _, _, hcc⟩ := HM.out.2.1.open_
          simp only at e
          subst e
          obtain ⟨a1, a2⟩ := hcc X hX
          exact ⟨a1, by rw [a2 _ (by omega), r0], by rw [a2 _ (by omega), r1], by rw [a2 _ (by omega), r2], by rw [a2 _ (by omega), r3]⟩
        clear hz r0 r1 r2 r3 hj hpv hne hlv hRB
        obtain ⟨wy, hwy⟩ : ∃ wy, wy = wr.alloc (.cells #[.int .i64 dk, .int .i64 df, .int .i64 dkey, .int .i64 dval] 34) := ⟨_, rfl⟩
        have P1 : Hid (PS w wy (.pointer xm) A.o A.room A.zs (.slice none 0 0) [] ((wr.heap.size, boxD7 dk df dkey dval) :: (g6, ob6) :: RB)) := Lib.hid (by rw [hwy]; exact P0.out.add (boxD7 dk df dkey dval))
        go_upto_region 10 with fail
        rw [← hwy]
        clear hwy q0 q1 q2 q3 hgs hg P0
        have HS : Hid (∀ X : World, X.heap[wr.heap.size]? = some (boxD7 dk df dkey dval) → X.heap[g6]? = some ob6 → (fun X => (X.cell? ⟨wr.heap.size, 0, none⟩ = some (.int .i64 dk) ∧ X.cell? ⟨wr.heap.size, 1, none⟩ = some (.int .i64 df) ∧ X.cell? ⟨wr.heap.size, 2, none⟩ = some (.int .i64 dkey) ∧ X.cell? ⟨wr.heap.size, 3, none⟩ = some (.int .i64 dval)) ∧ (X.cell? ⟨g6, k * 4, none⟩ = some (.pointer xm) ∧ X.cell? ⟨g6, k * 4 + 1, none⟩ = some (.int .i64 xr) ∧ X.cell? ⟨g6, k * 4 + 2, none⟩ = some (.pointer xm) ∧ X.cell? ⟨g6, k * 4 + 3, none⟩ = some (.slice xp zt.vals.length xc))) X) := Lib.hid fun X h1 h2 => ⟨(cellsD7 h1).2, (HROW.out X h2).2⟩
        have hg6 := (HROW.out wy (P1.out.2.2 (g6, ob6) (by simp)).1).1
        have P2 := Lib.hid (P1.out.below (Below.refl _ _).drew)
        clear P1 hg6
        refine wp_region_held_drew (S := (fun X => (X.cell? ⟨wr.heap.size, 0, none⟩ = some (.int .i64 dk) ∧ X.cell? ⟨wr.heap.size, 1, none⟩ = some (.int .i64 df) ∧ X.cell? ⟨wr.heap.size, 2, none⟩ = some (.int .i64 dkey) ∧ X.cell? ⟨wr.heap.size, 3, none⟩ = some (.int .i64 dval)) ∧ (X.cell? ⟨g6, k * 4, none⟩ = some (.pointer xm) ∧ X.cell? ⟨g6, k * 4 + 1, none⟩ = some (.int .i64 xr) ∧ X.cell? ⟨g6, k * 4 + 2, none⟩ = some (.pointer xm) ∧ X.cell? ⟨g6, k * 4 + 3, none⟩ = some (.slice xp zt.vals.length xc)))) (by as_aux_lemma => kernel_rfl) (HS.out _ (P2.out.2.2 (wr.heap.size, boxD7 dk df dkey dval) (by simp)).1 (P2.out.2.2 (g6, ob6) (by simp)).1) (fun hHeld0 => ?_)
        refine wpAnyH_take (i := 0) (v := ?_) rfl (by as_aux_lemma => kernel_rfl) (by as_aux_lemma => kernel_rfl) (by as_aux_lemma => kernel_rfl) (fun _ _ _ h => h) (Or.inl ⟨by rfl, ?ymp1⟩) (by assumption) ?qmp1
        case ymp1 => (intro wz hSw; (try dsimp only at hSw); go_simp <;> with_reducible rfl)
        try simp only [Act.put, List.getElem_toArray, List.getElem_cons_zero, List.setIfInBounds_toArray, List.set_cons_zero, List.set_cons_succ]
        refine wpAnyH_take (i := 1) (v := ?_) rfl (by as_aux_lemma => kernel_rfl) (by as_aux_lemma => kernel_rfl) (by as_aux_lemma => kernel_rfl) (fun _ _ _ h => h) (Or.inl ⟨by rfl, ?ymp2⟩) (by assumption) ?qmp2
        case ymp2 => (intro wz hSw; (try dsimp only at hSw); go_simp <;> with_reducible rfl)
        try simp only [Act.put, List.getElem_toArray, List.getElem_cons_zero, List.getElem_cons_succ, List.setIfInBounds_toArray, List.set_cons_zero, List.set_cons_succ]
        refine wpAnyH_take (i := 2) (v := ?_) rfl (by as_aux_lemma => kernel_rfl) (by as_aux_lemma => kernel_rfl) (by as_aux_lemma => kernel_rfl) (fun _ _ _ h => h) (Or.inl ⟨by rfl, ?ymp3⟩) (by assumption) ?qmp3
        case ymp3 => (intro wz hSw; (try dsimp only at hSw); go_simp <;> with_reducible rfl)
        try simp only [Act.put, List.getElem_toArray, List.getElem_cons_zero, List.getElem_cons_succ, List.setIfInBounds_toArray, List.set_cons_zero, List.set_cons_succ]
        refine wpAnyH_take (i := 3) (v := ?_) rfl (by as_aux_lemma => kernel_rfl) (by as_aux_lemma => kernel_rfl) (by as_aux_lemma => kernel_rfl) (fun _ _ _ h => h) (Or.inl ⟨by rfl, ?ymp4⟩) (by assumption) ?qmp4
        case ymp4 => (intro wz hSw; (try dsimp only at hSw); go_simp <;> with_reducible rfl)
        try simp only [Act.put, List.getElem_toArray, List.getElem_cons_zero, List.getElem_cons_succ, List.setIfInBounds_toArray, List.set_cons_zero, List.set_cons_succ]
        refine wpAnyH_take (i := 4) (v := ?_) rfl (by as_aux_lemma => kernel_rfl) (by as_aux_lemma => kernel_rfl) (by as_aux_lemma => kernel_rfl) (fun _ _ _ h => h) (Or.inl ⟨by rfl, ?ymp5⟩) (by assumption) ?qmp5
        case ymp5 => (intro wz hSw; (try dsimp only at hSw); go_simp <;> with_reducible rfl)
        try simp only [Act.put, List.getElem_toArray, List.getElem_cons_zero, List.getElem_cons_succ, List.setIfInBounds_toArray, List.set_cons_zero, List.set_cons_succ]
        refine wpAnyH_take (i := 8) (v := ?_) rfl (by as_aux_lemma => kernel_rfl) (by as_aux_lemma => kernel_rfl) (by as_aux_lemma => kernel_rfl) (fun _ _ _ h => h) (Or.inl ⟨by rfl, ?ymp6⟩) (by assumption) ?qmp6
        case ymp6 => (intro wz hSw; (try dsimp only at hSw); go_simp <;> with_reducible rfl)
        try simp only [Act.put, List.getElem_toArray, List.getElem_cons_zero, List.getElem_cons_succ, List.setIfInBounds_toArray, List.set_cons_zero, List.set_cons_succ]
        refine wpAnyH_ready (rs := [5, 13]) (by as_aux_lemma => kernel_rfl) (by simp) ?_
        refine AllReadyH.cons rfl (fun K hK => ?bmp7) ?cmp7
        case bmp7 =>
          go_simp
          refine (HPK.out _).mono ?_
          rintro e u7 ⟨rfl, hb⟩
          have PQ7 := Lib.hid (P2.out.below hb)
          clear hb
          refine hK.out _ _ ((HS.out _ (PQ7.out.2.2 (wr.heap.size, boxD7 dk df dkey dval) (by simp)).1 (PQ7.out.2.2 (g6, ob6) (by simp)).1)) (fun hHeld7 => ?_)
          clear hK K
          try simp only [Act.put, List.getElem_toArray, List.getElem_cons_zero, List.getElem_cons_succ, List.setIfInBounds_toArray, List.set_cons_zero, List.set_cons_succ]
          refine wpAnyH_take (i := 6) (v := ?_) rfl (by as_aux_lemma => kernel_rfl) (by as_aux_lemma => kernel_rfl) (by as_aux_lemma => kernel_rfl) (fun _ _ _ h => h) (Or.inl ⟨by rfl, ?ymp8⟩) (by assumption) ?qmp8
          case ymp8 => (intro wz hSw; (try dsimp only at hSw); go_simp <;> with_reducible rfl)
          try simp only [Act.put, List.getElem_toArray, List.getElem_cons_zero, List.getElem_cons_succ, List.setIfInBounds_toArray, List.set_cons_zero, List.set_cons_succ]
          refine wpAnyH_take (i := 7) (v := ?_) rfl (by as_aux_lemma => kernel_rfl) (by as_aux_lemma => kernel_rfl) (by as_aux_lemma => kernel_rfl) (fun _ _ _ h => h) (Or.inl ⟨by rfl, ?ymp9⟩) (by assumption) ?qmp9
          case ymp9 => (intro wz hSw; (try dsimp only at hSw); go_simp <;> with_reducible rfl)
          try simp only [Act.put, List.getElem_toArray, List.getElem_cons_zero, List.getElem_cons_succ, List.setIfInBounds_toArray, List.set_cons_zero, List.set_cons_succ]
          refine wpAnyH_ready (rs := [9, 13]) (by as_aux_lemma => kernel_rfl) (by simp) ?_
          refine AllReadyH.cons rfl (fun K hK => ?bmp10) ?cmp10
          case bmp10 =>
            go_simp
            refine (sqstep (ls := lb) dk df dkey dval HOK.out.2 (PQ7.out) HNE.out (by omega) HBD.out HLI.out (fun q hq => by simp [HLB.out q hq])).mono ?_
            rintro e u10 ⟨⟨ym, yr, ya, yp, yn, yc⟩, o', zs', nb, rfl, hp, hnb, hnew, hm, t', hn', hbd', hor⟩
            simp only at hm hn' hor
            subst hm hn'
            have HNB : Hid (∀ q ∈ nb, wr.heap.size < q.1) := Lib.hid fun q hq => by have h1 := hnb q hq; have h2 := heap_lt (PQ7.out.2.2 (wr.heap.size, boxD7 dk df dkey dval) (by simp)).1; simp only at h2; omega
            have HNW := Lib.hid hnew
            have HB7 := Lib.hid hbd'
            have HOR := Lib.hid hor
            have PQ10 := Lib.hid hp
            clear hp hnb hnew hor hbd'
            refine hK.out _ _ ((HS.out _ (PQ10.out.2.2 (wr.heap.size, boxD7 dk df dkey dval) (by simp)).1 (PQ10.out.2.2 (g6, ob6) (by simp)).1)) (fun hHeld10 => ?_)
            clear hK K
            refine wpAnyH_take (i := 10) (v := ?_) rfl (by as_aux_lemma => kernel_rfl) (by as_aux_lemma => kernel_rfl) (by as_aux_lemma => kernel_rfl) (fun _ _ _ h => h) (Or.inl ⟨by rfl, ?ymp11⟩) (by assumption) ?qmp11
            case ymp11 => (intro wz hSw; (try dsimp only at hSw); go_simp <;> with_reducible rfl)
            try simp only [Act.put, List.getElem_toArray, List.getElem_cons_zero, List.getElem_cons_succ, List.setIfInBounds_toArray, List.set_cons_zero, List.set_cons_succ]
            refine wpAnyH_take (i := 11) (v := ?_) rfl (by as_aux_lemma => kernel_rfl) (by as_aux_lemma => kernel_rfl) (by as_aux_lemma => kernel_rfl) (fun _ _ _ h => h) (Or.inl ⟨by rfl, ?ymp12⟩) (by assumption) ?qmp12
            case ymp12 => (intro wz hSw; (try dsimp only at hSw); go_simp <;> with_reducible rfl)
            try simp only [Act.put, List.getElem_toArray, List.getElem_cons_zero, List.getElem_cons_succ, List.setIfInBounds_toArray, List.set_cons_zero, List.set_cons_succ]
            refine wpAnyH_take (i := 12) (v := ?_) rfl (by as_aux_lemma => kernel_rfl) (by as_aux_lemma => kernel_rfl) (by as_aux_lemma => kernel_rfl) (fun _ _ _ h => h) (Or.inl ⟨by rfl, ?ymp13⟩) (by assumption) ?qmp13
            case ymp13 => (intro wz hSw; (try dsimp only at hSw); go_simp <;> with_reducible rfl)
            try simp only [Act.put, List.getElem_toArray, List.getElem_cons_zero, List.getElem_cons_succ, List.setIfInBounds_toArray, List.set_cons_zero, List.set_cons_succ]
            refine wpAnyH_ready (rs := [13]) (by as_aux_lemma => kernel_rfl) (by simp) ?_
            refine AllReadyH.cons rfl (fun K hK => ?_) AllReadyH.nil
            rw [if_pos (by rfl)]
            refine wp_alloc_one rfl ?_
            intro g9 u14 hg9 hu
            have PQ14 : Hid (PS w u14 (.pointer xm) o' A.room zs' (.slice none 0 0) [] ((g9, boxQ Qn.zero) :: (nb ++ (wr.heap.size, boxD7 dk df dkey dval) :: (g6, ob6) :: RB))) := Lib.hid (by rw [hu]; exact PQ10.out.addAt (g := g9) (boxQ Qn.zero) hg9)
            have HG9 : Hid (∀ q ∈ nb ++ (wr.heap.size, boxD7 dk df dkey dval) :: (g6, ob6) :: RB, q.1 < g9) := Lib.hid fun q hq => by rw [hg9]; exact heap_lt (PQ10.out.2.2 q hq).1
            have H9 : Hid ((∀ q ∈ nb ++ (wr.heap.size, boxD7 dk df dkey dval) :: (g6, ob6) :: RB, q.1 ≠ g9) ∧ w.heap.size ≤ g9) := Lib.hid ⟨fun q hq => Nat.ne_of_lt (HG9.out q hq), by have h1 := HG9.out (wr.heap.size, boxD7 dk df dkey dval) (by simp); have h2 := HWR.out; simp only at h1; omega⟩
            clear hg9 hu
            refine hK.out _ _ ((HS.out _ (PQ14.out.2.2 (wr.heap.size, boxD7 dk df dkey dval) (by simp)).1 (PQ14.out.2.2 (g6, ob6) (by simp)).1)) (fun hHeld14 => ?_)
            clear hK K
            try simp only [Act.put, List.getElem_toArray, List.getElem_cons_zero, List.getElem_cons_succ, List.setIfInBounds_toArray, List.set_cons_zero, List.set_cons_succ]
            refine wpAnyH_ready (rs := [14]) (by as_aux_lemma => kernel_rfl) (by simp) ?_
            refine AllReadyH.cons rfl (fun K hK => ?_) AllReadyH.nil
            rw [if_pos (by rfl)]
            refine wp_store_one (.tmp 9) (.tmp 41) rfl g9 ⟨ym, yr, ym, yp, t'.vals.length, yc⟩ Qn.zero rfl rfl (PQ14.out.2.2 (g9, boxQ Qn.zero) (by simp)).1 ?_
            intro u15 hst
            have PQ15 := Lib.hid ((PQ14.out.drop (bs' := (g9, boxQ Qn.zero) :: (nb ++ (wr.heap.size, boxD7 dk df dkey dval) :: (g6, ob6) :: RB)) (by intro q hq; simp only [List.mem_append, List.mem_cons] at hq ⊢; rcases hq with h | h | h | h | h <;> simp [h])).store H9.out.1 H9.out.2 hst)
            clear hst
            refine hK.out _ _ ((HS.out _ (PQ15.out.2.2 (wr.heap.size, boxD7 dk df dkey dval) (by simp)).1 (PQ15.out.2.2 (g6, ob6) (by simp)).1)) (fun hHeld15 => ?_)
            clear hK K
            try simp only [Act.put, List.getElem_toArray, List.getElem_cons_zero, List.getElem_cons_succ]
            refine wpAnyH_take (i := 15) (v := ?_) rfl (by as_aux_lemma => kernel_rfl) (by as_aux_lemma => kernel_rfl) (by as_aux_lemma => kernel_rfl) (fun _ _ _ h => h) (Or.inl ⟨by rfl, ?ymp16⟩) (by assumption) ?qmp16
            case ymp16 => (intro wz hSw; (try dsimp only at hSw); go_simp <;> with_reducible rfl)
            try simp only [Act.put, List.getElem_toArray, List.getElem_cons_zero, List.getElem_cons_succ, List.setIfInBounds_toArray, List.set_cons_zero, List.set_cons_succ]
            refine wpAnyH_done (by as_aux_lemma => kernel_rfl) ?_ _
            have PF := PQ15
            obtain ⟨_, x0, x1, x2, x3⟩ := cellsQ (PF.out.2.2 (g9, boxQ ⟨ym, yr, ym, yp, t'.vals.length, yc⟩) (by simp)).1
            obtain ⟨_, y0, y1, y2, y3⟩ := cellsD7 (PF.out.2.2 (wr.heap.size, boxD7 dk df dkey dval) (by simp)).1
            simp only at x0 x1 x2 x3
            have HTE : Hid (∀ X, Below u15.heap.size u15 X → Calls Try.prog 9 #[.agg #[.pointer ym, .int .i64 yr, .pointer ym, .slice yp t'.vals.length yc], .agg #[.int .i64 dk, .int .i64 df, .int .i64 dkey, .int .i64 dval]] X fun e w' => e = .returned (.bool true) ∧ Below X.heap.size X w') := Lib.hid fun X hX => by
              have PX := PF.out.below hX
              rcases HOR.out with ⟨e1, e2, e3⟩ | ⟨A2, e1, e2, e3, e4⟩
              · subst e1
                exact sqtells dk df dkey dval HOK.out.1 PX.1.1 e2.1 (by have := e2.2.2.2; omega) (LI.sl (e3.mono (bs' := nb ++ (wr.heap.size, boxD7 dk df dkey dval) :: (g6, ob6) :: RB) (fun q hq => by rcases List.mem_append.1 hq with hq | hq; simp [hq]; simp [HLB.out q hq])) (fun q hq => (PX.2.2 q (List.mem_cons_of_mem _ hq)).1) (by rw [Tre.vals_len]; have := e2.2.2.2; omega))
              · have hA := e2.2 X (fun q hq => (PX.2.2 q (by simp [hq])).1)
                rw [e1] at hA
                exact sqtells dk df dkey dval HOK.out.1 hA e3.1 (by have := e3.2.2.2; omega) (LI.sl (e4.mono (bs' := nb ++ (wr.heap.size, boxD7 dk df dkey dval) :: (g6, ob6) :: RB) (fun q hq => by simp [HLB.out q hq])) (fun q hq => (PX.2.2 q (List.mem_cons_of_mem _ hq)).1) (by rw [Tre.vals_len]; have := e3.2.2.2; omega))
            go_wp2_with fail
            refine (HTE.out _ (Below.refl _ _)).mono ?_
            rintro e uT ⟨rfl, hb⟩
            have PG := Lib.hid (PF.out.below hb)
            clear hb PF HTE x0 x1 x2 x3 y0 y1 y2 y3
            obtain ⟨_, x0, x1, x2, x3⟩ := cellsQ (PG.out.2.2 (g9, boxQ ⟨ym, yr, ym, yp, t'.vals.length, yc⟩) (by simp)).1
            simp only at x0 x1 x2 x3
            have HNX : Hid (∃ ars' lb' j', MA w uT (g6, ob6) lb' ars' ∧ ∀ y ∈ ents ++ [⟨⟨ym, yr, ym, yp, t'.vals.length, yc⟩, j', t'⟩], En.ok (n + 1) ars' lb' y) := Lib.hid (HM.out.next (z := ⟨⟨xm, xr, xm, xp, zt.vals.length, xc⟩, zj, zt⟩) (x := ⟨ym, yr, ym, yp, t'.vals.length, yc⟩) (t' := t') HJ.out.1 HJ.out.2 (PG.out.drop (by intro q hq; simp only [List.mem_append, List.mem_cons, HRB.out] at hq ⊢; rcases hq with h | h | h | h <;> simp [h])) (fun q hq => Nat.le_of_lt (HNB.out q hq)) HNW.out rfl rfl HB7.out HOR.out)
            have PG6 : Hid ((uT.alloc (boxQ ⟨ym, yr, ym, yp, t'.vals.length, yc⟩)).heap[g6]? = some ob6) := Lib.hid (heap_alloc_lt _ _ _ _ (PG.out.2.2 (g6, ob6) (by simp)).1)
            go_wp2_with (refine append_one (g' := uT.heap.size) (z := ⟨ym, yr, ym, yp, t'.vals.length, yc⟩) rfl (.tmp 51) (.tmp 53) rfl HM.out.2.1 PG6.out rfl rfl (heap_alloc_at _ _ _ rfl) (by omega) ?_; intro c7 w9 g7 ob7 hr hp hg he; have HFIN : Hid (∃ ents' ars' lb', MS w w9 (n + 1) (g7, ob7) (.slice (some ⟨g7, 0, none⟩) (n + 1) c7) ents' ars' lb') := Lib.hid (by obtain ⟨ars', lb', j', hMA, hok⟩ := HNX.out; exact ⟨ents ++ [⟨⟨ym, yr, ym, yp, t'.vals.length, yc⟩, j', t'⟩], ars', lb', (hMA.below ((Below.refl _ _).alloc (Nat.le_refl _) _)).grow hg hp he, by rw [rowsE_snoc]; exact hr, by rw [List.length_append, List.length_singleton, HM.out.2.2.1], hok⟩); clear hr hp hg he)
            obtain ⟨ents', ars', lb', hF⟩ := HFIN.out
            have HF := Lib.hid hF
            clear hF HFIN
            go_roundw
            case rel => exact ⟨i + 1, n + 1, g7, c7, ob7, ents', ars', lb', by go_num, rfl, by omega, by omega, by omega, HF⟩
            case measure => simp [intOf]; omega
          refine AllReadyH.cons rfl (fun K hK => ?bmp17) ?cmp17
          case bmp17 =>
            rw [if_pos (by rfl)]
            refine wp_alloc_one rfl ?_
            intro g9 u17 hg9 hu
            have PQ17 : Hid (PS w u17 (.pointer xm) A.o A.room A.zs (.slice none 0 0) [] ((g9, boxQ Qn.zero) :: ((wr.heap.size, boxD7 dk df dkey dval) :: (g6, ob6) :: RB))) := Lib.hid (by rw [hu]; exact PQ7.out.addAt (g := g9) (boxQ Qn.zero) hg9)
            have HG9 : Hid (∀ q ∈ (wr.heap.size, boxD7 dk df dkey dval) :: (g6, ob6) :: RB, q.1 < g9) := Lib.hid fun q hq => by rw [hg9]; exact heap_lt (PQ7.out.2.2 q hq).1
            clear hg9 hu
            refine hK.out _ _ ((HS.out _ (PQ17.out.2.2 (wr.heap.size, boxD7 dk df dkey dval) (by simp)).1 (PQ17.out.2.2 (g6, ob6) (by simp)).1)) (fun hHeld17 => ?_)
            clear hK K
            try simp only [Act.put, List.getElem_toArray, List.getElem_cons_zero, List.getElem_cons_succ, List.setIfInBounds_toArray, List.set_cons_zero, List.set_cons_succ]
            refine wpAnyH_ready (rs := [9]) (by as_aux_lemma => kernel_rfl) (by simp) ?_
            refine AllReadyH.cons rfl (fun K hK => ?_) AllReadyH.nil
            go_simp
            refine (sqstep (ls := lb) dk df dkey dval HOK.out.2 (PQ17.out) HNE.out (by omega) HBD.out HLI.out (fun q hq => by simp [HLB.out q hq])).mono ?_
            rintro e u18 ⟨⟨ym, yr, ya, yp, yn, yc⟩, o', zs', nb, rfl, hp, hnb, hnew, hm, t', hn', hbd', hor⟩
            simp only at hm hn' hor
            subst hm hn'
            have HNB : Hid (∀ q ∈ nb, wr.heap.size < q.1) := Lib.hid fun q hq => by have h1 := hnb q hq; have h2 := heap_lt (PQ17.out.2.2 (wr.heap.size, boxD7 dk df dkey dval) (by simp)).1; simp only at h2; omega
            have H9 : Hid ((∀ q ∈ nb ++ (wr.heap.size, boxD7 dk df dkey dval) :: (g6, ob6) :: RB, q.1 ≠ g9) ∧ w.heap.size ≤ g9) := Lib.hid ⟨fun q hq => by
              rcases List.mem_append.1 hq with hq | hq
              · have h1 := hnb q hq; have h2 := heap_lt (PQ17.out.2.2 (g9, boxQ Qn.zero) (by simp)).1; simp only at h2; omega
              · exact Nat.ne_of_lt (HG9.out q hq), by have h1 := HG9.out (wr.heap.size, boxD7 dk df dkey dval) (by simp); have h2 := HWR.out; simp only at h1; omega⟩
            have HNW := Lib.hid hnew
            have HB7 := Lib.hid hbd'
            have HOR := Lib.hid hor
            have PQ18 := Lib.hid hp
            clear hp hnb hnew hor hbd'
            refine hK.out _ _ ((HS.out _ (PQ18.out.2.2 (wr.heap.size, boxD7 dk df dkey dval) (by simp)).1 (PQ18.out.2.2 (g6, ob6) (by simp)).1)) (fun hHeld18 => ?_)
            clear hK K
            refine wpAnyH_take (i := 10) (v := ?_) rfl (by as_aux_lemma => kernel_rfl) (by as_aux_lemma => kernel_rfl) (by as_aux_lemma => kernel_rfl) (fun _ _ _ h => h) (Or.inl ⟨by rfl, ?ymp19⟩) (by assumption) ?qmp19
            case ymp19 => (intro wz hSw; (try dsimp only at hSw); go_simp <;> with_reducible rfl)
            try simp only [Act.put, List.getElem_toArray, List.getElem_cons_zero, List.getElem_cons_succ, List.setIfInBounds_toArray, List.set_cons_zero, List.set_cons_succ]
            refine wpAnyH_take (i := 11) (v := ?_) rfl (by as_aux_lemma => kernel_rfl) (by as_aux_lemma => kernel_rfl) (by as_aux_lemma => kernel_rfl) (fun _ _ _ h => h) (Or.inl ⟨by rfl, ?ymp20⟩) (by assumption) ?qmp20
            case ymp20 => (intro wz hSw; (try dsimp only at hSw); go_simp <;> with_reducible rfl)
            try simp only [Act.put, List.getElem_toArray, List.getElem_cons_zero, List.getElem_cons_succ, List.setIfInBounds_toArray, List.set_cons_zero, List.set_cons_succ]
            refine wpAnyH_take (i := 12) (v := ?_) rfl (by as_aux_lemma => kernel_rfl) (by as_aux_lemma => kernel_rfl) (by as_aux_lemma => kernel_rfl) (fun _ _ _ h => h) (Or.inl ⟨by rfl, ?ymp21⟩) (by assumption) ?qmp21
            case ymp21 => (intro wz hSw; (try dsimp only at hSw); go_simp <;> with_reducible rfl)
            try simp only [Act.put, List.getElem_toArray, List.getElem_cons_zero, List.getElem_cons_succ, List.setIfInBounds_toArray, List.set_cons_zero, List.set_cons_succ]
            refine wpAnyH_ready (rs := [14]) (by as_aux_lemma => kernel_rfl) (by simp) ?_
            refine AllReadyH.cons rfl (fun K hK => ?_) AllReadyH.nil
            rw [if_pos (by rfl)]
            refine wp_store_one (.tmp 9) (.tmp 41) rfl g9 ⟨ym, yr, ym, yp, t'.vals.length, yc⟩ Qn.zero rfl rfl (PQ18.out.2.2 (g9, boxQ Qn.zero) (by simp)).1 ?_
            intro u22 hst
            have PQ22 := Lib.hid ((PQ18.out.drop (bs' := (g9, boxQ Qn.zero) :: (nb ++ (wr.heap.size, boxD7 dk df dkey dval) :: (g6, ob6) :: RB)) (by intro q hq; simp only [List.mem_append, List.mem_cons] at hq ⊢; rcases hq with h | h | h | h | h <;> simp [h])).store H9.out.1 H9.out.2 hst)
            clear hst
            refine hK.out _ _ ((HS.out _ (PQ22.out.2.2 (wr.heap.size, boxD7 dk df dkey dval) (by simp)).1 (PQ22.out.2.2 (g6, ob6) (by simp)).1)) (fun hHeld22 => ?_)
            clear hK K
            try simp only [Act.put, List.getElem_toArray, List.getElem_cons_zero, List.getElem_cons_succ]
            refine wpAnyH_take (i := 15) (v := ?_) rfl (by as_aux_lemma => kernel_rfl) (by as_aux_lemma => kernel_rfl) (by as_aux_lemma => kernel_rfl) (fun _ _ _ h => h) (Or.inl ⟨by rfl, ?ymp23⟩) (by assumption) ?qmp23
            case ymp23 => (intro wz hSw; (try dsimp only at hSw); go_simp <;> with_reducible rfl)
            try simp only [Act.put, List.getElem_toArray, List.getElem_cons_zero, List.getElem_cons_succ, List.setIfInBounds_toArray, List.set_cons_zero, List.set_cons_succ]
            refine wpAnyH_done (by as_aux_lemma => kernel_rfl) ?_ _
            have PF := PQ22
            obtain ⟨_, x0, x1, x2, x3⟩ := cellsQ (PF.out.2.2 (g9, boxQ ⟨ym, yr, ym, yp, t'.vals.length, yc⟩) (by simp)).1
            obtain ⟨_, y0, y1, y2, y3⟩ := cellsD7 (PF.out.2.2 (wr.heap.size, boxD7 dk df dkey dval) (by simp)).1
            simp only at x0 x1 x2 x3
            have HTE : Hid (∀ X, Below u22.heap.size u22 X → Calls Try.prog 9 #[.agg #[.pointer ym, .int .i64 yr, .pointer ym, .slice yp t'.vals.length yc], .agg #[.int .i64 dk, .int .i64 df, .int .i64 dkey, .int .i64 dval]] X fun e w' => e = .returned (.bool true) ∧ Below X.heap.size X w') := Lib.hid fun X hX => by
              have PX := PF.out.below hX
              rcases HOR.out with ⟨e1, e2, e3⟩ | ⟨A2, e1, e2, e3, e4⟩
              · subst e1
                exact sqtells dk df dkey dval HOK.out.1 PX.1.1 e2.1 (by have := e2.2.2.2; omega) (LI.sl (e3.mono (bs' := nb ++ (wr.heap.size, boxD7 dk df dkey dval) :: (g6, ob6) :: RB) (fun q hq => by rcases List.mem_append.1 hq with hq | hq; simp [hq]; simp [HLB.out q hq])) (fun q hq => (PX.2.2 q (List.mem_cons_of_mem _ hq)).1) (by rw [Tre.vals_len]; have := e2.2.2.2; omega))
              · have hA := e2.2 X (fun q hq => (PX.2.2 q (by simp [hq])).1)
                rw [e1] at hA
                exact sqtells dk df dkey dval HOK.out.1 hA e3.1 (by have := e3.2.2.2; omega) (LI.sl (e4.mono (bs' := nb ++ (wr.heap.size, boxD7 dk df dkey dval) :: (g6, ob6) :: RB) (fun q hq => by simp [HLB.out q hq])) (fun q hq => (PX.2.2 q (List.mem_cons_of_mem _ hq)).1) (by rw [Tre.vals_len]; have := e3.2.2.2; omega))
            go_wp2_with fail
            refine (HTE.out _ (Below.refl _ _)).mono ?_
            rintro e uT ⟨rfl, hb⟩
            have PG := Lib.hid (PF.out.below hb)
            clear hb PF HTE x0 x1 x2 x3 y0 y1 y2 y3
            obtain ⟨_, x0, x1, x2, x3⟩ := cellsQ (PG.out.2.2 (g9, boxQ ⟨ym, yr, ym, yp, t'.vals.length, yc⟩) (by simp)).1
            simp only at x0 x1 x2 x3
            have HNX : Hid (∃ ars' lb' j', MA w uT (g6, ob6) lb' ars' ∧ ∀ y ∈ ents ++ [⟨⟨ym, yr, ym, yp, t'.vals.length, yc⟩, j', t'⟩], En.ok (n + 1) ars' lb' y) := Lib.hid (HM.out.next (z := ⟨⟨xm, xr, xm, xp, zt.vals.length, xc⟩, zj, zt⟩) (x := ⟨ym, yr, ym, yp, t'.vals.length, yc⟩) (t' := t') HJ.out.1 HJ.out.2 (PG.out.drop (by intro q hq; simp only [List.mem_append, List.mem_cons, HRB.out] at hq ⊢; rcases hq with h | h | h | h <;> simp [h])) (fun q hq => Nat.le_of_lt (HNB.out q hq)) HNW.out rfl rfl HB7.out HOR.out)
            have PG6 : Hid ((uT.alloc (boxQ ⟨ym, yr, ym, yp, t'.vals.length, yc⟩)).heap[g6]? = some ob6) := Lib.hid (heap_alloc_lt _ _ _ _ (PG.out.2.2 (g6, ob6) (by simp)).1)
            go_wp2_with (refine append_one (g' := uT.heap.size) (z := ⟨ym, yr, ym, yp, t'.vals.length, yc⟩) rfl (.tmp 51) (.tmp 53) rfl HM.out.2.1 PG6.out rfl rfl (heap_alloc_at _ _ _ rfl) (by omega) ?_; intro c7 w9 g7 ob7 hr hp hg he; have HFIN : Hid (∃ ents' ars' lb', MS w w9 (n + 1) (g7, ob7) (.slice (some ⟨g7, 0, none⟩) (n + 1) c7) ents' ars' lb') := Lib.hid (by obtain ⟨ars', lb', j', hMA, hok⟩ := HNX.out; exact ⟨ents ++ [⟨⟨ym, yr, ym, yp, t'.vals.length, yc⟩, j', t'⟩], ars', lb', (hMA.below ((Below.refl _ _).alloc (Nat.le_refl _) _)).grow hg hp he, by rw [rowsE_snoc]; exact hr, by rw [List.length_append, List.length_singleton, HM.out.2.2.1], hok⟩); clear hr hp hg he)
            obtain ⟨ents', ars', lb', hF⟩ := HFIN.out
            have HF := Lib.hid hF
            clear hF HFIN
            go_roundw
            case rel => exact ⟨i + 1, n + 1, g7, c7, ob7, ents', ars', lb', by go_num, rfl, by omega, by omega, by omega, HF⟩
            case measure => simp [intOf]; omega
          exact AllReadyH.nil
        refine AllReadyH.cons rfl (fun K hK => ?bmp24) ?cmp24
        case bmp24 =>
          rw [if_pos (by rfl)]
          refine wp_alloc_one rfl ?_
          intro g9 u24 hg9 hu
          have PQ24 : Hid (PS w u24 (.pointer xm) A.o A.room A.zs (.slice none 0 0) [] ((g9, boxQ Qn.zero) :: ((wr.heap.size, boxD7 dk df dkey dval) :: (g6, ob6) :: RB))) := Lib.hid (by rw [hu]; exact P2.out.addAt (g := g9) (boxQ Qn.zero) hg9)
          have HG9 : Hid (∀ q ∈ (wr.heap.size, boxD7 dk df dkey dval) :: (g6, ob6) :: RB, q.1 < g9) := Lib.hid fun q hq => by rw [hg9]; exact heap_lt (P2.out.2.2 q hq).1
          clear hg9 hu
          refine hK.out _ _ ((HS.out _ (PQ24.out.2.2 (wr.heap.size, boxD7 dk df dkey dval) (by simp)).1 (PQ24.out.2.2 (g6, ob6) (by simp)).1)) (fun hHeld24 => ?_)
          clear hK K
          try simp only [Act.put, List.getElem_toArray, List.getElem_cons_zero, List.getElem_cons_succ, List.setIfInBounds_toArray, List.set_cons_zero, List.set_cons_succ]
          refine wpAnyH_ready (rs := [5]) (by as_aux_lemma => kernel_rfl) (by simp) ?_
          refine AllReadyH.cons rfl (fun K hK => ?_) AllReadyH.nil
          go_simp
          refine (HPK.out _).mono ?_
          rintro e u25 ⟨rfl, hb⟩
          have PQ25 := Lib.hid (PQ24.out.below hb)
          clear hb
          refine hK.out _ _ ((HS.out _ (PQ25.out.2.2 (wr.heap.size, boxD7 dk df dkey dval) (by simp)).1 (PQ25.out.2.2 (g6, ob6) (by simp)).1)) (fun hHeld25 => ?_)
          clear hK K
          try simp only [Act.put, List.getElem_toArray, List.getElem_cons_zero, List.getElem_cons_succ, List.setIfInBounds_toArray, List.set_cons_zero, List.set_cons_succ]
          refine wpAnyH_take (i := 6) (v := ?_) rfl (by as_aux_lemma => kernel_rfl) (by as_aux_lemma => kernel_rfl) (by as_aux_lemma => kernel_rfl) (fun _ _ _ h => h) (Or.inl ⟨by rfl, ?ymp26⟩) (by assumption) ?qmp26
          case ymp26 => (intro wz hSw; (try dsimp only at hSw); go_simp <;> with_reducible rfl)
          try simp only [Act.put, List.getElem_toArray, List.getElem_cons_zero, List.getElem_cons_succ, List.setIfInBounds_toArray, List.set_cons_zero, List.set_cons_succ]
          refine wpAnyH_take (i := 7) (v := ?_) rfl (by as_aux_lemma => kernel_rfl) (by as_aux_lemma => kernel_rfl) (by as_aux_lemma => kernel_rfl) (fun _ _ _ h => h) (Or.inl ⟨by rfl, ?ymp27⟩) (by assumption) ?qmp27
          case ymp27 => (intro wz hSw; (try dsimp only at hSw); go_simp <;> with_reducible rfl)
          try simp only [Act.put, List.getElem_toArray, List.getElem_cons_zero, List.getElem_cons_succ, List.setIfInBounds_toArray, List.set_cons_zero, List.set_cons_succ]
          refine wpAnyH_ready (rs := [9]) (by as_aux_lemma => kernel_rfl) (by simp) ?_
          refine AllReadyH.cons rfl (fun K hK => ?_) AllReadyH.nil
          go_simp
          refine (sqstep (ls := lb) dk df dkey dval HOK.out.2 (PQ25.out) HNE.out (by omega) HBD.out HLI.out (fun q hq => by simp [HLB.out q hq])).mono ?_
          rintro e u28 ⟨⟨ym, yr, ya, yp, yn, yc⟩, o', zs', nb, rfl, hp, hnb, hnew, hm, t', hn', hbd', hor⟩
          simp only at hm hn' hor
          subst hm hn'
          have HNB : Hid (∀ q ∈ nb, wr.heap.size < q.1) := Lib.hid fun q hq => by have h1 := hnb q hq; have h2 := heap_lt (PQ25.out.2.2 (wr.heap.size, boxD7 dk df dkey dval) (by simp)).1; simp only at h2; omega
          have H9 : Hid ((∀ q ∈ nb ++ (wr.heap.size, boxD7 dk df dkey dval) :: (g6, ob6) :: RB, q.1 ≠ g9) ∧ w.heap.size ≤ g9) := Lib.hid ⟨fun q hq => by
            rcases List.mem_append.1 hq with hq | hq
            · have h1 := hnb q hq; have h2 := heap_lt (PQ25.out.2.2 (g9, boxQ Qn.zero) (by simp)).1; simp only at h2; omega
            · exact Nat.ne_of_lt (HG9.out q hq), by have h1 := HG9.out (wr.heap.size, boxD7 dk df dkey dval) (by simp); have h2 := HWR.out; simp only at h1; omega⟩
          have HNW := Lib.hid hnew
          have HB7 := Lib.hid hbd'
          have HOR := Lib.hid hor
          have PQ28 := Lib.hid hp
          clear hp hnb hnew hor hbd'
          refine hK.out _ _ ((HS.out _ (PQ28.out.2.2 (wr.heap.size, boxD7 dk df dkey dval) (by simp)).1 (PQ28.out.2.2 (g6, ob6) (by simp)).1)) (fun hHeld28 => ?_)
          clear hK K
          refine wpAnyH_take (i := 10) (v := ?_) rfl (by as_aux_lemma => kernel_rfl) (by as_aux_lemma => kernel_rfl) (by as_aux_lemma => kernel_rfl) (fun _ _ _ h => h) (Or.inl ⟨by rfl, ?ymp29⟩) (by assumption) ?qmp29
          case ymp29 => (intro wz hSw; (try dsimp only at hSw); go_simp <;> with_reducible rfl)
          try simp only [Act.put, List.getElem_toArray, List.getElem_cons_zero, List.getElem_cons_succ, List.setIfInBounds_toArray, List.set_cons_zero, List.set_cons_succ]
          refine wpAnyH_take (i := 11) (v := ?_) rfl (by as_aux_lemma => kernel_rfl) (by as_aux_lemma => kernel_rfl) (by as_aux_lemma => kernel_rfl) (fun _ _ _ h => h) (Or.inl ⟨by rfl, ?ymp30⟩) (by assumption) ?qmp30
          case ymp30 => (intro wz hSw; (try dsimp only at hSw); go_simp <;> with_reducible rfl)
          try simp only [Act.put, List.getElem_toArray, List.getElem_cons_zero, List.getElem_cons_succ, List.setIfInBounds_toArray, List.set_cons_zero, List.set_cons_succ]
          refine wpAnyH_take (i := 12) (v := ?_) rfl (by as_aux_lemma => kernel_rfl) (by as_aux_lemma => kernel_rfl) (by as_aux_lemma => kernel_rfl) (fun _ _ _ h => h) (Or.inl ⟨by rfl, ?ymp31⟩) (by assumption) ?qmp31
          case ymp31 => (intro wz hSw; (try dsimp only at hSw); go_simp <;> with_reducible rfl)
          try simp only [Act.put, List.getElem_toArray, List.getElem_cons_zero, List.getElem_cons_succ, List.setIfInBounds_toArray, List.set_cons_zero, List.set_cons_succ]
          refine wpAnyH_ready (rs := [14]) (by as_aux_lemma => kernel_rfl) (by simp) ?_
          refine AllReadyH.cons rfl (fun K hK => ?_) AllReadyH.nil
          rw [if_pos (by rfl)]
          refine wp_store_one (.tmp 9) (.tmp 41) rfl g9 ⟨ym, yr, ym, yp, t'.vals.length, yc⟩ Qn.zero rfl rfl (PQ28.out.2.2 (g9, boxQ Qn.zero) (by simp)).1 ?_
          intro u32 hst
          have PQ32 := Lib.hid ((PQ28.out.drop (bs' := (g9, boxQ Qn.zero) :: (nb ++ (wr.heap.size, boxD7 dk df dkey dval) :: (g6, ob6) :: RB)) (by intro q hq; simp only [List.mem_append, List.mem_cons] at hq ⊢; rcases hq with h | h | h | h | h <;> simp [h])).store H9.out.1 H9.out.2 hst)
          clear hst
          refine hK.out _ _ ((HS.out _ (PQ32.out.2.2 (wr.heap.size, boxD7 dk df dkey dval) (by simp)).1 (PQ32.out.2.2 (g6, ob6) (by simp)).1)) (fun hHeld32 => ?_)
          clear hK K
          try simp only [Act.put, List.getElem_toArray, List.getElem_cons_zero, List.getElem_cons_succ]
          refine wpAnyH_take (i := 15) (v := ?_) rfl (by as_aux_lemma => kernel_rfl) (by as_aux_lemma => kernel_rfl) (by as_aux_lemma => kernel_rfl) (fun _ _ _ h => h) (Or.inl ⟨by rfl, ?ymp33⟩) (by assumption) ?qmp33
          case ymp33 => (intro wz hSw; (try dsimp only at hSw); go_simp <;> with_reducible rfl)
          try simp only [Act.put, List.getElem_toArray, List.getElem_cons_zero, List.getElem_cons_succ, List.setIfInBounds_toArray, List.set_cons_zero, List.set_cons_succ]
          refine wpAnyH_done (by as_aux_lemma => kernel_rfl) ?_ _
          have PF := PQ32
          obtain ⟨_, x0, x1, x2, x3⟩ := cellsQ (PF.out.2.2 (g9, boxQ ⟨ym, yr, ym, yp, t'.vals.length, yc⟩) (by simp)).1
          obtain ⟨_, y0, y1, y2, y3⟩ := cellsD7 (PF.out.2.2 (wr.heap.size, boxD7 dk df dkey dval) (by simp)).1
          simp only at x0 x1 x2 x3
          have HTE : Hid (∀ X, Below u32.heap.size u32 X → Calls Try.prog 9 #[.agg #[.pointer ym, .int .i64 yr, .pointer ym, .slice yp t'.vals.length yc], .agg #[.int .i64 dk, .int .i64 df, .int .i64 dkey, .int .i64 dval]] X fun e w' => e = .returned (.bool true) ∧ Below X.heap.size X w') := Lib.hid fun X hX => by
            have PX := PF.out.below hX
            rcases HOR.out with ⟨e1, e2, e3⟩ | ⟨A2, e1, e2, e3, e4⟩
            · subst e1
              exact sqtells dk df dkey dval HOK.out.1 PX.1.1 e2.1 (by have := e2.2.2.2; omega) (LI.sl (e3.mono (bs' := nb ++ (wr.heap.size, boxD7 dk df dkey dval) :: (g6, ob6) :: RB) (fun q hq => by rcases List.mem_append.1 hq with hq | hq; simp [hq]; simp [HLB.out q hq])) (fun q hq => (PX.2.2 q (List.mem_cons_of_mem _ hq)).1) (by rw [Tre.vals_len]; have := e2.2.2.2; omega))
            · have hA := e2.2 X (fun q hq => (PX.2.2 q (by simp [hq])).1)
              rw [e1] at hA
              exact sqtells dk df dkey dval HOK.out.1 hA e3.1 (by have := e3.2.2.2; omega) (LI.sl (e4.mono (bs' := nb ++ (wr.heap.size, boxD7 dk df dkey dval) :: (g6, ob6) :: RB) (fun q hq => by simp [HLB.out q hq])) (fun q hq => (PX.2.2 q (List.mem_cons_of_mem _ hq)).1) (by rw [Tre.vals_len]; have := e3.2.2.2; omega))
          go_wp2_with fail
          refine (HTE.out _ (Below.refl _ _)).mono ?_
          rintro e uT ⟨rfl, hb⟩
          have PG := Lib.hid (PF.out.below hb)
          clear hb PF HTE x0 x1 x2 x3 y0 y1 y2 y3
          obtain ⟨_, x0, x1, x2, x3⟩ := cellsQ (PG.out.2.2 (g9, boxQ ⟨ym, yr, ym, yp, t'.vals.length, yc⟩) (by simp)).1
          simp only at x0 x1 x2 x3
          have HNX : Hid (∃ ars' lb' j', MA w uT (g6, ob6) lb' ars' ∧ ∀ y ∈ ents ++ [⟨⟨ym, yr, ym, yp, t'.vals.length, yc⟩, j', t'⟩], En.ok (n + 1) ars' lb' y) := Lib.hid (HM.out.next (z := ⟨⟨xm, xr, xm, xp, zt.vals.length, xc⟩, zj, zt⟩) (x := ⟨ym, yr, ym, yp, t'.vals.length, yc⟩) (t' := t') HJ.out.1 HJ.out.2 (PG.out.drop (by intro q hq; simp only [List.mem_append, List.mem_cons, HRB.out] at hq ⊢; rcases hq with h | h | h | h <;> simp [h])) (fun q hq => Nat.le_of_lt (HNB.out q hq)) HNW.out rfl rfl HB7.out HOR.out)
          have PG6 : Hid ((uT.alloc (boxQ ⟨ym, yr, ym, yp, t'.vals.length, yc⟩)).heap[g6]? = some ob6) := Lib.hid (heap_alloc_lt _ _ _ _ (PG.out.2.2 (g6, ob6) (by simp)).1)
          go_wp2_with (refine append_one (g' := uT.heap.size) (z := ⟨ym, yr, ym, yp, t'.vals.length, yc⟩) rfl (.tmp 51) (.tmp 53) rfl HM.out.2.1 PG6.out rfl rfl (heap_alloc_at _ _ _ rfl) (by omega) ?_; intro c7 w9 g7 ob7 hr hp hg he; have HFIN : Hid (∃ ents' ars' lb', MS w w9 (n + 1) (g7, ob7) (.slice (some ⟨g7, 0, none⟩) (n + 1) c7) ents' ars' lb') := Lib.hid (by obtain ⟨ars', lb', j', hMA, hok⟩ := HNX.out; exact ⟨ents ++ [⟨⟨ym, yr, ym, yp, t'.vals.length, yc⟩, j', t'⟩], ars', lb', (hMA.below ((Below.refl _ _).alloc (Nat.le_refl _) _)).grow hg hp he, by rw [rowsE_snoc]; exact hr, by rw [List.length_append, List.length_singleton, HM.out.2.2.1], hok⟩); clear hr hp hg he)
          obtain ⟨ents', ars', lb', hF⟩ := HFIN.out
          have HF := Lib.hid hF
          clear hF HFIN
          go_roundw
          case rel => exact ⟨i + 1, n + 1, g7, c7, ob7, ents', ars', lb', by go_num, rfl, by omega, by omega, by omega, HF⟩
          case measure => simp [intOf]; omega
        exact AllReadyH.nil
      · have HB := Lib.hid HM.out.1.1.1.2.1
        clear HM
        go_wp2_with fail
        refine (HLV _).mono ?_
        rintro e wl ⟨rfl, hb⟩
        have HB2 := Lib.hid (HB.out.trans (hb.mono HB.out.size))
        clear hb
        go_wp2
        go_ret
        exact ⟨rfl, HB2.out⟩
end Go.Proofs.Ytbgepeokadmemaa.Q
