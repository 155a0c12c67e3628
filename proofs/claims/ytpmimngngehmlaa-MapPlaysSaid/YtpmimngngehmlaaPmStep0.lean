/-
  MapPlays: step's contract, a deed of kind 0. Not a statement of the seat.
-/
import Derived.Test.YtpmimngngehmlaaPmStep
namespace Go.Proofs.Ytpmimngngehmlaa.F
open Go.ChangeShapes Go.WideShapes Go.ChangeAt Go.RowKit Go.Sort Base BigFrame
set_option maxHeartbeats 16000000 in
set_option maxRecDepth 100000 in
theorem pmstep_put0 {w0 w : World} {a : Option Addr} {o : Option Nat} {room : Nat} {zs : List Cel} {bs : List (Nat × Obj)} {t : Tre} {root : Int} {p : Option Addr} {c : Nat} (from_ key val : Int) (h : PS w0 w (.pointer a) o room zs (.slice none 0 0) [] bs) (ht : Tr zs t root) (hsz : t.size ≤ 65536) (hok : Pai.ok ⟨key, val⟩) (hsrt : SortL t.list) (hlv : LV bs (.slice p t.list.length c) t.list) :
    Calls Try.prog 15 #[.agg #[.pointer a, .int .i64 root, .pointer a, .slice p t.list.length c], .agg #[.int .i64 0, .int .i64 from_, .int .i64 key, .int .i64 val]] w fun e w' => (∃ o', StepSame w0 a o' room zs bs root p t.list.length c e w') ∨ StepOk w0 w a room zs bs (Tre.ins key val t) e w' := by
  have P3 := Lib.hid (((h.addAt (boxN ⟨a, root, a, p, t.list.length, c⟩) rfl).addAt (g := w.heap.size + 1) (boxD6 0 from_ key val) (by simp)).addAt (g := w.heap.size + 2) (boxN On.zero) (by simp))
  have HT := Lib.hid ht
  have hh : t.high ≤ 70000 := by have := t.high_le_size; omega
  have HLE := Lib.hid h.1.1.le
  have HN : Hid ((∀ q ∈ (w.heap.size + 1, boxD6 0 from_ key val) :: (w.heap.size, boxN ⟨a, root, a, p, t.list.length, c⟩) :: bs, q.1 ≠ w.heap.size + 2) ∧ w0.heap.size ≤ w.heap.size + 2) := Lib.hid ⟨fun q hq e => by
    simp only [List.mem_cons] at hq
    rcases hq with rfl | rfl | hq
    · simp only at e; omega
    · simp only at e; omega
    · have := heap_lt (h.2.2 q hq).1; omega, by have := h.1.2.1.size; omega⟩
  clear h ht
  obtain ⟨X0, hX0⟩ : ∃ X0, X0 = ((w.alloc (boxN ⟨a, root, a, p, t.list.length, c⟩)).alloc (boxD6 0 from_ key val)).alloc (boxN On.zero) := ⟨_, rfl⟩
  have hX1 : ((w.alloc (.cells #[.pointer a, .int .i64 root, .pointer a, .slice p t.list.length c] 31)).alloc (.cells #[.int .i64 0, .int .i64 from_, .int .i64 key, .int .i64 val] 34)).alloc (.cells #[.pointer none, .int .i64 0, .pointer none, .slice none 0 0] 31) = X0 := hX0.symm
  rw [← hX0] at P3
  clear hX0
  have HX1 := Lib.hid hX1
  clear hX1
  go_enter Try.func15, Try.ntmps15
  go_wp2_with fail
  rw [HX1.out]
  clear HX1
  obtain ⟨hgx, x0, x1, x2, x3⟩ := cellsN (P3.out.2.2 (w.heap.size, boxN ⟨a, root, a, p, t.list.length, c⟩) (by simp)).1
  simp only at x0 x1 x2 x3
  have k0 := cell_regrown x0
  have k1 := cell_regrown x1
  have k2 := cell_regrown x2
  have HR1 : Hid (∀ d os, Calls Try.prog 58 #[.pointer a] (grow (redrawn X0 d) os) fun e w'' => e = .returned (.int .i64 ((room : Int) - (zs.length : Int))) ∧ ∃ p : Regrown, w'' = grow (redrawn X0 p.d) p.os) := Lib.hid fun d os => Calls.regrown_of ((arroom_v (P3.out.below (below_regrown X0 d os)).1.1).mono fun _ _ ⟨e, n, h2⟩ => ⟨e, by rw [h2]; exact below_drewN (Below.refl _ _) n⟩)
  have HR2 : Hid (∀ d os, Calls Try.prog 60 #[.pointer a] (grow (redrawn X0 d) os) fun e w'' => e = .returned (.int .i64 (zs.length : Int)) ∧ ∃ p : Regrown, w'' = grow (redrawn X0 p.d) p.os) := Lib.hid fun d os => Calls.regrown_of ((arlen_v (P3.out.below (below_regrown X0 d os)).1.1).mono fun _ _ ⟨e, h2⟩ => ⟨e, by rw [← h2]; exact Below.refl _ _⟩)
  have HR3 : Hid (∀ d os, Calls Try.prog 22 #[.agg #[.pointer a, .int .i64 root]] (grow (redrawn X0 d) os) fun e w'' => e = .returned (.int .i64 (t.high : Int)) ∧ ∃ p : Regrown, w'' = grow (redrawn X0 p.d) p.os) := Lib.hid fun d os => Calls.regrown_of (pmhigh (P3.out.below (below_regrown X0 d os)).1.1 (t := t) (root := root) HT.out)
  refine wp_region_quiet_below (by kernel_rfl) (by kernel_rfl) ?_
  repeat (go_big_quiet_step (first | exact HR1.out _ _ | exact HR2.out _ _ | exact HR3.out _ _))
  refine wpQuiet_nil ?_
  intro _ hw'
  obtain ⟨⟨dq, osq⟩, hw''⟩ := hw'
  subst hw''
  have P4 := Lib.hid (P3.out.below (below_regrown X0 dq osq))
  obtain ⟨X1, hX1⟩ : ∃ X1, X1 = grow (redrawn X0 dq) osq := ⟨_, rfl⟩
  rw [← hX1] at P4
  rw [← hX1]
  clear hX1 P3 HR1 HR2 HR3 k0 k1 k2 hgx x0 x1 x2 x3
  obtain ⟨hgx, x0, x1, x2, x3⟩ := cellsN (P4.out.2.2 (w.heap.size, boxN ⟨a, root, a, p, t.list.length, c⟩) (by simp)).1
  obtain ⟨hgy, y0, y1, y2, y3⟩ := cellsD6 (P4.out.2.2 (w.heap.size + 1, boxD6 0 from_ key val) (by simp)).1
  simp only at x0 x1 x2 x3
  have hlE1 := HLE
  obtain ⟨hi, hhi⟩ : ∃ hi, hi = t.high := ⟨_, rfl⟩
  rw [← hhi] at hh
  try rw [← hhi]
  have HHI := Lib.hid hhi
  clear hhi
  have hle1 := hlE1.out.1
  have hle2 := hlE1.out.2
  go_wp2_with fail
  refine (pmput ⟨key, val⟩ hok P4.out.1.1 (t := t) (root := root) HT.out (by have := HT.out; omega)).mono ?_
  intro e w3 hp
  obtain ⟨rt2, why, zs2, hs, hM⟩ := hp.step
  obtain ⟨rfl, o2, P5⟩ := P4.out.step hs
  have HW3 : Hid (w.heap.size + 2 < w3.heap.size) := Lib.hid (heap_lt (P5.out.2.2 (w.heap.size + 2, boxN On.zero) (by simp)).1)
  clear hp hs P4 hgx x0 x1 x2 x3 hgy y0 y1 y2 y3
  obtain ⟨hgx, x0, x1, x2, x3⟩ := cellsN (P5.out.2.2 (w.heap.size, boxN ⟨a, root, a, p, t.list.length, c⟩) (by simp)).1
  obtain ⟨hgy, y0, y1, y2, y3⟩ := cellsD6 (P5.out.2.2 (w.heap.size + 1, boxD6 0 from_ key val) (by simp)).1
  simp only at x0 x1 x2 x3
  rcases hM.out with ⟨rfl, hP⟩ | ⟨rfl, hzz, rfl, hZ⟩
  · have HP := Lib.hid hP
    clear hP hM
    have HLB : Hid ((Tre.ins key val t).list.length ≤ 9223372036854775807) := Lib.hid (by rw [Tre.list_len]; have := (ins_size1 key val t).2.1; omega)
    have HLK := Lib.hid (link key val t hsrt)
    go_wp2_with fail
    obtain ⟨wy, hwy⟩ : ∃ wy, wy = w3.alloc (.cells #[.pointer a, .int .i64 rt2] 27) := ⟨_, rfl⟩
    have P6 : Hid (PS w0 wy (.pointer a) o2 room zs2 (.slice none 0 0) [] ((w3.heap.size, boxM (.pointer a) rt2) :: (w.heap.size + 2, boxN On.zero) :: (w.heap.size + 1, boxD6 0 from_ key val) :: (w.heap.size, boxN ⟨a, root, a, p, t.list.length, c⟩) :: bs)) := Lib.hid (by rw [hwy]; exact P5.out.addAt (boxM (.pointer a) rt2) rfl)
    go_upto_region 10 with fail
    rw [← hwy]
    clear hwy hgx x0 x1 x2 x3 hgy y0 y1 y2 y3
    have HX : Hid (∀ X, Below wy.heap.size wy X → PS w0 X (.pointer a) o2 room zs2 (.slice none 0 0) [] ((w3.heap.size, boxM (.pointer a) rt2) :: (w.heap.size + 2, boxN On.zero) :: (w.heap.size + 1, boxD6 0 from_ key val) :: (w.heap.size, boxN ⟨a, root, a, p, t.list.length, c⟩) :: bs)) := Lib.hid fun X hX => P6.out.below hX
    have HS : Hid (∀ X, Below wy.heap.size wy X → (fun X => (X.cell? ⟨w.heap.size, 0, none⟩ = some (.pointer a) ∧ X.cell? ⟨w.heap.size, 1, none⟩ = some (.int .i64 root) ∧ X.cell? ⟨w.heap.size, 2, none⟩ = some (.pointer a) ∧ X.cell? ⟨w.heap.size, 3, none⟩ = some (.slice p t.list.length c)) ∧ (X.cell? ⟨w.heap.size + 1, 2, none⟩ = some (.int .i64 key) ∧ X.cell? ⟨w.heap.size + 1, 3, none⟩ = some (.int .i64 val)) ∧ (X.cell? ⟨w3.heap.size, 0, none⟩ = some (.pointer a) ∧ X.cell? ⟨w3.heap.size, 1, none⟩ = some (.int .i64 rt2))) X) := Lib.hid fun X hX => ⟨(cellsN ((HX.out X hX).2.2 (w.heap.size, boxN ⟨a, root, a, p, t.list.length, c⟩) (by simp)).1).2, ⟨(cellsD6 ((HX.out X hX).2.2 (w.heap.size + 1, boxD6 0 from_ key val) (by simp)).1).2.2.2.1, (cellsD6 ((HX.out X hX).2.2 (w.heap.size + 1, boxD6 0 from_ key val) (by simp)).1).2.2.2.2⟩, (cellsM ((HX.out X hX).2.2 (w3.heap.size, boxM (.pointer a) rt2) (by simp)).1).2⟩
    have BB0 : Hid (Below wy.heap.size wy wy.drew) := Lib.hid (Below.refl _ _).drew
    have HWY : Hid (w3.heap.size < wy.heap.size) := Lib.hid (heap_lt (P6.out.2.2 (w3.heap.size, boxM (.pointer a) rt2) (by simp)).1)

    have HPR : Hid (∀ X, Below wy.heap.size wy X → Calls Try.prog 55 #[.slice p t.list.length c, .int .i64 key, .int .i64 val] X (PaiNew (Tre.ins key val t).list X)) := Lib.hid fun X hX => by rw [HLK.out.1]; exact put_ref _ _ _ _ _ (hlv.pais (fun q hq => ((HX.out X hX).2.2 q (by simp [hq])).1) (by rw [Tre.list_len]; omega)) (by rw [Tre.list_len]; omega)
    refine wp_region_held_drew (S := (fun X => (X.cell? ⟨w.heap.size, 0, none⟩ = some (.pointer a) ∧ X.cell? ⟨w.heap.size, 1, none⟩ = some (.int .i64 root) ∧ X.cell? ⟨w.heap.size, 2, none⟩ = some (.pointer a) ∧ X.cell? ⟨w.heap.size, 3, none⟩ = some (.slice p t.list.length c)) ∧ (X.cell? ⟨w.heap.size + 1, 2, none⟩ = some (.int .i64 key) ∧ X.cell? ⟨w.heap.size + 1, 3, none⟩ = some (.int .i64 val)) ∧ (X.cell? ⟨w3.heap.size, 0, none⟩ = some (.pointer a) ∧ X.cell? ⟨w3.heap.size, 1, none⟩ = some (.int .i64 rt2)))) (by as_aux_lemma => kernel_rfl) (HS.out _ BB0.out) (fun hHeld0 => ?_)
    refine wpAnyH_take (i := 0) (v := ?_) rfl (by as_aux_lemma => kernel_rfl) (by as_aux_lemma => kernel_rfl) (by as_aux_lemma => kernel_rfl) (fun _ _ _ h => h) (Or.inl ⟨by rfl, ?yst01⟩) (by assumption) ?qst01
    case yst01 => (intro wz hSw; (try dsimp only at hSw); go_simp <;> with_reducible rfl)
    try simp only [Act.put, List.getElem_toArray, List.getElem_cons_zero, List.setIfInBounds_toArray, List.set_cons_zero, List.set_cons_succ]
    refine wpAnyH_take (i := 1) (v := ?_) rfl (by as_aux_lemma => kernel_rfl) (by as_aux_lemma => kernel_rfl) (by as_aux_lemma => kernel_rfl) (fun _ _ _ h => h) (Or.inl ⟨by rfl, ?yst02⟩) (by assumption) ?qst02
    case yst02 => (intro wz hSw; (try dsimp only at hSw); go_simp <;> with_reducible rfl)
    try simp only [Act.put, List.getElem_toArray, List.getElem_cons_zero, List.getElem_cons_succ, List.setIfInBounds_toArray, List.set_cons_zero, List.set_cons_succ]
    refine wpAnyH_take (i := 2) (v := ?_) rfl (by as_aux_lemma => kernel_rfl) (by as_aux_lemma => kernel_rfl) (by as_aux_lemma => kernel_rfl) (fun _ _ _ h => h) (Or.inl ⟨by rfl, ?yst03⟩) (by assumption) ?qst03
    case yst03 => (intro wz hSw; (try dsimp only at hSw); go_simp <;> with_reducible rfl)
    try simp only [Act.put, List.getElem_toArray, List.getElem_cons_zero, List.getElem_cons_succ, List.setIfInBounds_toArray, List.set_cons_zero, List.set_cons_succ]
    refine wpAnyH_take (i := 3) (v := ?_) rfl (by as_aux_lemma => kernel_rfl) (by as_aux_lemma => kernel_rfl) (by as_aux_lemma => kernel_rfl) (fun _ _ _ h => h) (Or.inl ⟨by rfl, ?yst04⟩) (by assumption) ?qst04
    case yst04 => (intro wz hSw; (try dsimp only at hSw); go_simp <;> with_reducible rfl)
    try simp only [Act.put, List.getElem_toArray, List.getElem_cons_zero, List.getElem_cons_succ, List.setIfInBounds_toArray, List.set_cons_zero, List.set_cons_succ]
    refine wpAnyH_take (i := 4) (v := ?_) rfl (by as_aux_lemma => kernel_rfl) (by as_aux_lemma => kernel_rfl) (by as_aux_lemma => kernel_rfl) (fun _ _ _ h => h) (Or.inl ⟨by rfl, ?yst05⟩) (by assumption) ?qst05
    case yst05 => (intro wz hSw; (try dsimp only at hSw); go_simp <;> with_reducible rfl)
    try simp only [Act.put, List.getElem_toArray, List.getElem_cons_zero, List.getElem_cons_succ, List.setIfInBounds_toArray, List.set_cons_zero, List.set_cons_succ]
    refine wpAnyH_take (i := 5) (v := ?_) rfl (by as_aux_lemma => kernel_rfl) (by as_aux_lemma => kernel_rfl) (by as_aux_lemma => kernel_rfl) (fun _ _ _ h => h) (Or.inl ⟨by rfl, ?yst06⟩) (by assumption) ?qst06
    case yst06 => (intro wz hSw; (try dsimp only at hSw); go_simp <;> with_reducible rfl)
    try simp only [Act.put, List.getElem_toArray, List.getElem_cons_zero, List.getElem_cons_succ, List.setIfInBounds_toArray, List.set_cons_zero, List.set_cons_succ]
    refine wpAnyH_take (i := 6) (v := ?_) rfl (by as_aux_lemma => kernel_rfl) (by as_aux_lemma => kernel_rfl) (by as_aux_lemma => kernel_rfl) (fun _ _ _ h => h) (Or.inl ⟨by rfl, ?yst07⟩) (by assumption) ?qst07
    case yst07 => (intro wz hSw; (try dsimp only at hSw); go_simp <;> with_reducible rfl)
    try simp only [Act.put, List.getElem_toArray, List.getElem_cons_zero, List.getElem_cons_succ, List.setIfInBounds_toArray, List.set_cons_zero, List.set_cons_succ]
    refine wpAnyH_take (i := 7) (v := ?_) rfl (by as_aux_lemma => kernel_rfl) (by as_aux_lemma => kernel_rfl) (by as_aux_lemma => kernel_rfl) (fun _ _ _ h => h) (Or.inl ⟨by rfl, ?yst08⟩) (by assumption) ?qst08
    case yst08 => (intro wz hSw; (try dsimp only at hSw); go_simp <;> with_reducible rfl)
    try simp only [Act.put, List.getElem_toArray, List.getElem_cons_zero, List.getElem_cons_succ, List.setIfInBounds_toArray, List.set_cons_zero, List.set_cons_succ]
    refine wpAnyH_take (i := 8) (v := ?_) rfl (by as_aux_lemma => kernel_rfl) (by as_aux_lemma => kernel_rfl) (by as_aux_lemma => kernel_rfl) (fun _ _ _ h => h) (Or.inl ⟨by rfl, ?yst09⟩) (by assumption) ?qst09
    case yst09 => (intro wz hSw; (try dsimp only at hSw); go_simp <;> with_reducible rfl)
    try simp only [Act.put, List.getElem_toArray, List.getElem_cons_zero, List.getElem_cons_succ, List.setIfInBounds_toArray, List.set_cons_zero, List.set_cons_succ]
    refine wpAnyH_take (i := 11) (v := ?_) rfl (by as_aux_lemma => kernel_rfl) (by as_aux_lemma => kernel_rfl) (by as_aux_lemma => kernel_rfl) (fun _ _ _ h => h) (Or.inl ⟨by rfl, ?yst010⟩) (by assumption) ?qst010
    case yst010 => (intro wz hSw; (try dsimp only at hSw); go_simp <;> with_reducible rfl)
    try simp only [Act.put, List.getElem_toArray, List.getElem_cons_zero, List.getElem_cons_succ, List.setIfInBounds_toArray, List.set_cons_zero, List.set_cons_succ]
    refine wpAnyH_take (i := 12) (v := ?_) rfl (by as_aux_lemma => kernel_rfl) (by as_aux_lemma => kernel_rfl) (by as_aux_lemma => kernel_rfl) (fun _ _ _ h => h) (Or.inl ⟨by rfl, ?yst011⟩) (by assumption) ?qst011
    case yst011 => (intro wz hSw; (try dsimp only at hSw); go_simp <;> with_reducible rfl)
    try simp only [Act.put, List.getElem_toArray, List.getElem_cons_zero, List.getElem_cons_succ, List.setIfInBounds_toArray, List.set_cons_zero, List.set_cons_succ]
    refine wpAnyH_ready (rs := [9]) (by as_aux_lemma => kernel_rfl) (by simp) ?_
    refine AllReadyH.cons rfl (fun K hK => ?_) AllReadyH.nil
    go_simp
    refine (HPR.out _ BB0.out).mono ?_
    rintro e u12 ⟨vl, rfl, hol, hb⟩
    obtain ⟨pl, cl, hvl, _, _⟩ := (hol.list HLB.out).open_
    subst hvl
    obtain ⟨nb, hPL, hLV, hnb⟩ := PS.list (HX.out _ BB0.out) hb hol
    have HNB : Hid (∀ q ∈ nb, wy.heap.size ≤ q.1) := Lib.hid fun q hq => Nat.le_trans (Below.size BB0.out) (hnb q hq)
    have HLV := Lib.hid hLV
    have PL := Lib.hid hPL
    have HNN : Hid (∀ q ∈ (w3.heap.size, boxM (.pointer a) rt2) :: (w.heap.size + 1, boxD6 0 from_ key val) :: (w.heap.size, boxN ⟨a, root, a, p, t.list.length, c⟩) :: (nb ++ bs), q.1 ≠ w.heap.size + 2) := Lib.hid fun q hq e => by simp only [List.mem_cons, List.mem_append] at hq; have h1 := HW3.out; have h2 := HWY.out; rcases hq with rfl | rfl | rfl | hq | hq; (simp only at e; omega); (simp only at e; omega); (simp only at e; omega); (have := HNB.out q hq; omega); exact HN.out.1 q (by simp [hq]) e
    have CB12 := Lib.hid (Below.trans (show Below wy.heap.size wy _ from BB0.out) (hb.mono (show wy.heap.size ≤ _ from Below.size BB0.out)))
    clear hb hol hPL hLV hnb
    refine hK.out _ _ ((HS.out _ CB12.out)) (fun hHeld12 => ?_)
    clear hK K
    try simp only [Act.put, List.getElem_toArray, List.getElem_cons_zero, List.getElem_cons_succ, List.setIfInBounds_toArray, List.set_cons_zero, List.set_cons_succ]
    refine wpAnyH_take (i := 10) (v := ?_) rfl (by as_aux_lemma => kernel_rfl) (by as_aux_lemma => kernel_rfl) (by as_aux_lemma => kernel_rfl) (fun _ _ _ h => h) (Or.inl ⟨by rfl, ?yst013⟩) (by assumption) ?qst013
    case yst013 => (intro wz hSw; (try dsimp only at hSw); go_simp <;> with_reducible rfl)
    try simp only [Act.put, List.getElem_toArray, List.getElem_cons_zero, List.getElem_cons_succ, List.setIfInBounds_toArray, List.set_cons_zero, List.set_cons_succ]
    refine wpAnyH_ready (rs := [13]) (by as_aux_lemma => kernel_rfl) (by simp) ?_
    refine AllReadyH.cons rfl (fun K hK => ?_) AllReadyH.nil
    rw [if_pos (by rfl)]
    refine wp_store_one (.tmp 4) (.tmp 76) rfl (w.heap.size + 2) ⟨a, rt2, a, pl, (Tre.ins key val t).list.length, cl⟩ On.zero rfl rfl (PL.out.2.2 (w.heap.size + 2, boxN On.zero) (by simp)).1 ?_
    intro v14 hst
    have HF := Lib.hid ((PL.out.drop (bs' := (w.heap.size + 2, boxN On.zero) :: (w3.heap.size, boxM (.pointer a) rt2) :: (w.heap.size + 1, boxD6 0 from_ key val) :: (w.heap.size, boxN ⟨a, root, a, p, t.list.length, c⟩) :: (nb ++ bs)) (by intro q hq; simp only [List.mem_cons, List.mem_append] at hq ⊢; rcases hq with h | h | h | h | h | h <;> simp [h])).store HNN.out HN.out.2 hst)
    clear hst
    refine hK.out _ _ (⟨(cellsN (HF.out.2.2 (w.heap.size, boxN ⟨a, root, a, p, t.list.length, c⟩) (by simp)).1).2, ⟨(cellsD6 (HF.out.2.2 (w.heap.size + 1, boxD6 0 from_ key val) (by simp)).1).2.2.2.1, (cellsD6 (HF.out.2.2 (w.heap.size + 1, boxD6 0 from_ key val) (by simp)).1).2.2.2.2⟩, (cellsM (HF.out.2.2 (w3.heap.size, boxM (.pointer a) rt2) (by simp)).1).2⟩) (fun hHeld14 => ?_)
    clear hK K
    try simp only [Act.put, List.getElem_toArray, List.getElem_cons_zero, List.getElem_cons_succ]
    refine wpAnyH_take (i := 14) (v := ?_) rfl (by as_aux_lemma => kernel_rfl) (by as_aux_lemma => kernel_rfl) (by as_aux_lemma => kernel_rfl) (fun _ _ _ h => h) (Or.inl ⟨by rfl, ?yst015⟩) (by assumption) ?qst015
    case yst015 => (intro wz hSw; (try dsimp only at hSw); go_simp <;> with_reducible rfl)
    try simp only [Act.put, List.getElem_toArray, List.getElem_cons_zero, List.getElem_cons_succ, List.setIfInBounds_toArray, List.set_cons_zero, List.set_cons_succ]
    refine wpAnyH_done (by as_aux_lemma => kernel_rfl) ?_ _
    go_wp2_with fail
    exact bodyPost_ret (results_one _ _ (w.heap.size + 2) ⟨a, rt2, a, pl, (Tre.ins key val t).list.length, cl⟩ true rfl rfl (HF.out.2.2 (w.heap.size + 2, boxN ⟨a, rt2, a, pl, (Tre.ins key val t).list.length, cl⟩) (by simp)).1) rfl (.inr ⟨o2, zs2, rt2, pl, cl, nb, rfl, HP.out.1.imp fun new h => h.1, HP.out.2, HLV.out, fun q hq => by have := HNB.out q hq; have := HW3.out; have := HWY.out; omega, HF.out.drop (fun q hq => by simp only [List.mem_cons]; exact .inr (.inr (.inr (.inr hq))))⟩)
  · obtain rfl : zs = zs2 := hzz.symm
    have hen : decide (3 * ((hi : Int) + 1) ≤ (room : Int) - (zs.length : Int)) = false := by rw [decide_eq_false_iff_not]; have := HHI.out; omega
    clear hM hZ
    go_wp2_with fail
    obtain ⟨wy, hwy⟩ : ∃ wy, wy = w3.alloc (.cells #[.pointer a, .int .i64 0] 27) := ⟨_, rfl⟩
    have P6 : Hid (PS w0 wy (.pointer a) o2 room zs (.slice none 0 0) [] ((w3.heap.size, boxM (.pointer a) 0) :: (w.heap.size + 2, boxN On.zero) :: (w.heap.size + 1, boxD6 0 from_ key val) :: (w.heap.size, boxN ⟨a, root, a, p, t.list.length, c⟩) :: bs)) := Lib.hid (by rw [hwy]; exact P5.out.addAt (boxM (.pointer a) 0) rfl)
    go_upto_region 9 with fail
    rw [← hwy]
    clear hwy hgx x0 x1 x2 x3 hgy y0 y1 y2 y3
    have HX : Hid (∀ X, Below wy.heap.size wy X → PS w0 X (.pointer a) o2 room zs (.slice none 0 0) [] ((w3.heap.size, boxM (.pointer a) 0) :: (w.heap.size + 2, boxN On.zero) :: (w.heap.size + 1, boxD6 0 from_ key val) :: (w.heap.size, boxN ⟨a, root, a, p, t.list.length, c⟩) :: bs)) := Lib.hid fun X hX => P6.out.below hX
    have HS : Hid (∀ X, Below wy.heap.size wy X → (fun X => (X.cell? ⟨w.heap.size, 0, none⟩ = some (.pointer a) ∧ X.cell? ⟨w.heap.size, 1, none⟩ = some (.int .i64 root) ∧ X.cell? ⟨w.heap.size, 2, none⟩ = some (.pointer a) ∧ X.cell? ⟨w.heap.size, 3, none⟩ = some (.slice p t.list.length c)) ∧ (X.cell? ⟨w.heap.size + 1, 2, none⟩ = some (.int .i64 key) ∧ X.cell? ⟨w.heap.size + 1, 3, none⟩ = some (.int .i64 val)) ∧ (X.cell? ⟨w3.heap.size, 0, none⟩ = some (.pointer a) ∧ X.cell? ⟨w3.heap.size, 1, none⟩ = some (.int .i64 0))) X) := Lib.hid fun X hX => ⟨(cellsN ((HX.out X hX).2.2 (w.heap.size, boxN ⟨a, root, a, p, t.list.length, c⟩) (by simp)).1).2, ⟨(cellsD6 ((HX.out X hX).2.2 (w.heap.size + 1, boxD6 0 from_ key val) (by simp)).1).2.2.2.1, (cellsD6 ((HX.out X hX).2.2 (w.heap.size + 1, boxD6 0 from_ key val) (by simp)).1).2.2.2.2⟩, (cellsM ((HX.out X hX).2.2 (w3.heap.size, boxM (.pointer a) 0) (by simp)).1).2⟩
    have BB0 : Hid (Below wy.heap.size wy wy.drew) := Lib.hid (Below.refl _ _).drew
    have HWY : Hid (w3.heap.size < wy.heap.size) := Lib.hid (heap_lt (P6.out.2.2 (w3.heap.size, boxM (.pointer a) 0) (by simp)).1)

    have HLe : Hid (∀ X, Below wy.heap.size wy X → Calls Try.prog 60 #[.pointer a] X (IntB (zs.length : Int) X)) := Lib.hid fun X hX => (arlen_v (HX.out X hX).1.1).mono fun _ _ ⟨e, h2⟩ => ⟨e, by rw [← h2]; exact Below.refl _ _⟩
    have HL0 : Hid (∀ X, Below wy.heap.size wy X → Calls Try.prog 23 #[.agg #[.pointer a, .int .i64 0]] X (IntB 0 X)) := Lib.hid fun X hX => pmlen (HX.out X hX).1.1 (t := .nil) (root := 0) rfl
    have HNN : Hid (∀ q ∈ (w3.heap.size, boxM (.pointer a) 0) :: (w.heap.size + 1, boxD6 0 from_ key val) :: (w.heap.size, boxN ⟨a, root, a, p, t.list.length, c⟩) :: bs, q.1 ≠ w.heap.size + 2) := Lib.hid fun q hq e => by
      simp only [List.mem_cons] at hq
      rcases hq with rfl | hq
      · simp only at e; have := HW3.out; omega
      · exact HN.out.1 q (by simp only [List.mem_cons]; exact hq) e
    refine wp_region_held_drew (S := (fun X => (X.cell? ⟨w.heap.size, 0, none⟩ = some (.pointer a) ∧ X.cell? ⟨w.heap.size, 1, none⟩ = some (.int .i64 root) ∧ X.cell? ⟨w.heap.size, 2, none⟩ = some (.pointer a) ∧ X.cell? ⟨w.heap.size, 3, none⟩ = some (.slice p t.list.length c)) ∧ (X.cell? ⟨w.heap.size + 1, 2, none⟩ = some (.int .i64 key) ∧ X.cell? ⟨w.heap.size + 1, 3, none⟩ = some (.int .i64 val)) ∧ (X.cell? ⟨w3.heap.size, 0, none⟩ = some (.pointer a) ∧ X.cell? ⟨w3.heap.size, 1, none⟩ = some (.int .i64 0)))) (by as_aux_lemma => kernel_rfl) (HS.out _ BB0.out) (fun hHeld0 => ?_)
    refine wpAnyH_take (i := 0) (v := ?_) rfl (by as_aux_lemma => kernel_rfl) (by as_aux_lemma => kernel_rfl) (by as_aux_lemma => kernel_rfl) (fun _ _ _ h => h) (Or.inl ⟨by rfl, ?yst0f1⟩) (by assumption) ?qst0f1
    case yst0f1 => (intro wz hSw; (try dsimp only at hSw); go_simp <;> with_reducible rfl)
    try simp only [Act.put, List.getElem_toArray, List.getElem_cons_zero, List.setIfInBounds_toArray, List.set_cons_zero, List.set_cons_succ]
    refine wpAnyH_take (i := 1) (v := ?_) rfl (by as_aux_lemma => kernel_rfl) (by as_aux_lemma => kernel_rfl) (by as_aux_lemma => kernel_rfl) (fun _ _ _ h => h) (Or.inl ⟨by rfl, ?yst0f2⟩) (by assumption) ?qst0f2
    case yst0f2 => (intro wz hSw; (try dsimp only at hSw); go_simp <;> with_reducible rfl)
    try simp only [Act.put, List.getElem_toArray, List.getElem_cons_zero, List.getElem_cons_succ, List.setIfInBounds_toArray, List.set_cons_zero, List.set_cons_succ]
    refine wpAnyH_take (i := 2) (v := ?_) rfl (by as_aux_lemma => kernel_rfl) (by as_aux_lemma => kernel_rfl) (by as_aux_lemma => kernel_rfl) (fun _ _ _ h => h) (Or.inl ⟨by rfl, ?yst0f3⟩) (by assumption) ?qst0f3
    case yst0f3 => (intro wz hSw; (try dsimp only at hSw); go_simp <;> with_reducible rfl)
    try simp only [Act.put, List.getElem_toArray, List.getElem_cons_zero, List.getElem_cons_succ, List.setIfInBounds_toArray, List.set_cons_zero, List.set_cons_succ]
    refine wpAnyH_take (i := 3) (v := ?_) rfl (by as_aux_lemma => kernel_rfl) (by as_aux_lemma => kernel_rfl) (by as_aux_lemma => kernel_rfl) (fun _ _ _ h => h) (Or.inl ⟨by rfl, ?yst0f4⟩) (by assumption) ?qst0f4
    case yst0f4 => (intro wz hSw; (try dsimp only at hSw); go_simp <;> with_reducible rfl)
    try simp only [Act.put, List.getElem_toArray, List.getElem_cons_zero, List.getElem_cons_succ, List.setIfInBounds_toArray, List.set_cons_zero, List.set_cons_succ]
    refine wpAnyH_take (i := 4) (v := ?_) rfl (by as_aux_lemma => kernel_rfl) (by as_aux_lemma => kernel_rfl) (by as_aux_lemma => kernel_rfl) (fun _ _ _ h => h) (Or.inl ⟨by rfl, ?yst0f5⟩) (by assumption) ?qst0f5
    case yst0f5 => (intro wz hSw; (try dsimp only at hSw); go_simp <;> with_reducible rfl)
    try simp only [Act.put, List.getElem_toArray, List.getElem_cons_zero, List.getElem_cons_succ, List.setIfInBounds_toArray, List.set_cons_zero, List.set_cons_succ]
    refine wpAnyH_take (i := 5) (v := ?_) rfl (by as_aux_lemma => kernel_rfl) (by as_aux_lemma => kernel_rfl) (by as_aux_lemma => kernel_rfl) (fun _ _ _ h => h) (Or.inl ⟨by rfl, ?yst0f6⟩) (by assumption) ?qst0f6
    case yst0f6 => (intro wz hSw; (try dsimp only at hSw); go_simp <;> with_reducible rfl)
    try simp only [Act.put, List.getElem_toArray, List.getElem_cons_zero, List.getElem_cons_succ, List.setIfInBounds_toArray, List.set_cons_zero, List.set_cons_succ]
    refine wpAnyH_take (i := 7) (v := ?_) rfl (by as_aux_lemma => kernel_rfl) (by as_aux_lemma => kernel_rfl) (by as_aux_lemma => kernel_rfl) (fun _ _ _ h => h) (Or.inl ⟨by rfl, ?yst0f7⟩) (by assumption) ?qst0f7
    case yst0f7 => (intro wz hSw; (try dsimp only at hSw); go_simp <;> with_reducible rfl)
    try simp only [Act.put, List.getElem_toArray, List.getElem_cons_zero, List.getElem_cons_succ, List.setIfInBounds_toArray, List.set_cons_zero, List.set_cons_succ]
    refine wpAnyH_ready (rs := [6]) (by as_aux_lemma => kernel_rfl) (by simp) ?_
    refine AllReadyH.cons rfl (fun K hK => ?_) AllReadyH.nil
    go_simp
    refine (HLe.out _ BB0.out).mono ?_
    rintro e u8 ⟨rfl, hb⟩
    have CB8 := Lib.hid (Below.trans (show Below wy.heap.size wy _ from BB0.out) (hb.mono (show wy.heap.size ≤ _ from Below.size BB0.out)))
    clear hb
    refine hK.out _ _ ((HS.out _ CB8.out)) (fun hHeld8 => ?_)
    clear hK K
    try simp only [Act.put, List.getElem_toArray, List.getElem_cons_zero, List.getElem_cons_succ, List.setIfInBounds_toArray, List.set_cons_zero, List.set_cons_succ]
    refine wpAnyH_take (i := 8) (v := ?_) rfl (by as_aux_lemma => kernel_rfl) (by as_aux_lemma => kernel_rfl) (by as_aux_lemma => kernel_rfl) (fun _ _ _ h => h) (Or.inl ⟨by rfl, ?yst0f9⟩) (by assumption) ?qst0f9
    case yst0f9 => (intro wz hSw; (try dsimp only at hSw); go_simp <;> with_reducible rfl)
    try simp only [Act.put, List.getElem_toArray, List.getElem_cons_zero, List.getElem_cons_succ, List.setIfInBounds_toArray, List.set_cons_zero, List.set_cons_succ]
    refine wpAnyH_take (i := 9) (v := ?_) rfl (by as_aux_lemma => kernel_rfl) (by as_aux_lemma => kernel_rfl) (by as_aux_lemma => kernel_rfl) (fun _ _ _ h => h) (Or.inl ⟨by rfl, ?yst0f10⟩) (by assumption) ?qst0f10
    case yst0f10 => (intro wz hSw; (try dsimp only at hSw); go_simp <;> with_reducible rfl)
    try simp only [Act.put, List.getElem_toArray, List.getElem_cons_zero, List.getElem_cons_succ, List.setIfInBounds_toArray, List.set_cons_zero, List.set_cons_succ]
    refine wpAnyH_take (i := 10) (v := ?_) rfl (by as_aux_lemma => kernel_rfl) (by as_aux_lemma => kernel_rfl) (by as_aux_lemma => kernel_rfl) (fun _ _ _ h => h) (Or.inl ⟨by rfl, ?yst0f11⟩) (by assumption) ?qst0f11
    case yst0f11 => (intro wz hSw; (try dsimp only at hSw); go_simp <;> with_reducible rfl)
    try simp only [Act.put, List.getElem_toArray, List.getElem_cons_zero, List.getElem_cons_succ, List.setIfInBounds_toArray, List.set_cons_zero, List.set_cons_succ]
    refine wpAnyH_take (i := 11) (v := ?_) rfl (by as_aux_lemma => kernel_rfl) (by as_aux_lemma => kernel_rfl) (by as_aux_lemma => kernel_rfl) (fun _ _ _ h => h) (Or.inl ⟨by rfl, ?yst0f12⟩) (by assumption) ?qst0f12
    case yst0f12 => (intro wz hSw; (try dsimp only at hSw); go_simp <;> with_reducible rfl)
    try simp only [Act.put, List.getElem_toArray, List.getElem_cons_zero, List.getElem_cons_succ, List.setIfInBounds_toArray, List.set_cons_zero, List.set_cons_succ]
    refine wpAnyH_ready (rs := [12]) (by as_aux_lemma => kernel_rfl) (by simp) ?_
    refine AllReadyH.cons rfl (fun K hK => ?_) AllReadyH.nil
    go_simp
    refine (HL0.out _ CB8.out).mono ?_
    rintro e u13 ⟨rfl, hb⟩
    have CB13 := Lib.hid (Below.trans (show Below wy.heap.size wy _ from CB8.out) (hb.mono (show wy.heap.size ≤ _ from Below.size CB8.out)))
    clear hb
    refine hK.out _ _ ((HS.out _ CB13.out)) (fun hHeld13 => ?_)
    clear hK K
    try simp only [Act.put, List.getElem_toArray, List.getElem_cons_zero, List.getElem_cons_succ, List.setIfInBounds_toArray, List.set_cons_zero, List.set_cons_succ]
    refine wpAnyH_take (i := 13) (v := ?_) rfl (by as_aux_lemma => kernel_rfl) (by as_aux_lemma => kernel_rfl) (by as_aux_lemma => kernel_rfl) (fun _ _ _ h => h) (Or.inl ⟨by rfl, ?yst0f14⟩) (by assumption) ?qst0f14
    case yst0f14 => (intro wz hSw; (try dsimp only at hSw); go_simp <;> with_reducible rfl)
    try simp only [Act.put, List.getElem_toArray, List.getElem_cons_zero, List.getElem_cons_succ, List.setIfInBounds_toArray, List.set_cons_zero, List.set_cons_succ]
    refine wpAnyH_take (i := 14) (v := ?_) rfl (by as_aux_lemma => kernel_rfl) (by as_aux_lemma => kernel_rfl) (by as_aux_lemma => kernel_rfl) (fun _ _ _ h => h) (Or.inl ⟨by rfl, ?yst0f15⟩) (by assumption) ?qst0f15
    case yst0f15 => (intro wz hSw; (try dsimp only at hSw); go_simp <;> with_reducible rfl)
    try simp only [Act.put, List.getElem_toArray, List.getElem_cons_zero, List.getElem_cons_succ, List.setIfInBounds_toArray, List.set_cons_zero, List.set_cons_succ]
    refine wpAnyH_ready (rs := [15]) (by as_aux_lemma => kernel_rfl) (by simp) ?_
    refine AllReadyH.cons rfl (fun K hK => ?_) AllReadyH.nil
    rw [if_pos (by rfl)]
    refine wp_store_one (.tmp 4) (.tmp 51) rfl (w.heap.size + 2) ⟨a, root, a, p, t.list.length, c⟩ On.zero rfl rfl ((HX.out _ CB13.out).2.2 (w.heap.size + 2, boxN On.zero) (by simp)).1 ?_
    intro v16 hst
    have HF := Lib.hid (((HX.out _ CB13.out).drop (bs' := (w.heap.size + 2, boxN On.zero) :: (w3.heap.size, boxM (.pointer a) 0) :: (w.heap.size + 1, boxD6 0 from_ key val) :: (w.heap.size, boxN ⟨a, root, a, p, t.list.length, c⟩) :: bs) (by intro q hq; simp only [List.mem_cons] at hq ⊢; rcases hq with h | h | h | h | h <;> simp [h])).store HNN.out HN.out.2 hst)
    clear hst
    refine hK.out _ _ (⟨(cellsN (HF.out.2.2 (w.heap.size, boxN ⟨a, root, a, p, t.list.length, c⟩) (by simp)).1).2, ⟨(cellsD6 (HF.out.2.2 (w.heap.size + 1, boxD6 0 from_ key val) (by simp)).1).2.2.2.1, (cellsD6 (HF.out.2.2 (w.heap.size + 1, boxD6 0 from_ key val) (by simp)).1).2.2.2.2⟩, (cellsM (HF.out.2.2 (w3.heap.size, boxM (.pointer a) 0) (by simp)).1).2⟩) (fun hHeld16 => ?_)
    clear hK K
    try simp only [Act.put, List.getElem_toArray, List.getElem_cons_zero, List.getElem_cons_succ]
    refine wpAnyH_take (i := 16) (v := ?_) rfl (by as_aux_lemma => kernel_rfl) (by as_aux_lemma => kernel_rfl) (by as_aux_lemma => kernel_rfl) (fun _ _ _ h => h) (Or.inl ⟨by rfl, ?yst0f17⟩) (by assumption) ?qst0f17
    case yst0f17 => (intro wz hSw; (try dsimp only at hSw); go_simp <;> with_reducible rfl)
    try simp only [Act.put, List.getElem_toArray, List.getElem_cons_zero, List.getElem_cons_succ, List.setIfInBounds_toArray, List.set_cons_zero, List.set_cons_succ]
    refine wpAnyH_done (by as_aux_lemma => kernel_rfl) ?_ _
    go_wp2_with fail
    exact bodyPost_ret (results_one _ _ (w.heap.size + 2) ⟨a, root, a, p, t.list.length, c⟩ true rfl rfl (HF.out.2.2 (w.heap.size + 2, boxN ⟨a, root, a, p, t.list.length, c⟩) (by simp)).1) rfl (.inl ⟨o2, rfl, HF.out.drop (fun q hq => by simp [hq])⟩)

end Go.Proofs.Ytpmimngngehmlaa.F
