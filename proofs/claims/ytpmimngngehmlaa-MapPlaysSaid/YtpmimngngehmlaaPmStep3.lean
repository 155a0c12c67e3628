/-
  MapPlays: step's contract, a deed of kind 3. Not a statement of the seat.
-/
import Derived.Test.YtpmimngngehmlaaPmStep
namespace Go.Proofs.Ytpmimngngehmlaa.F
open Go.ChangeShapes Go.WideShapes Go.ChangeAt Go.RowKit Go.Sort Base BigFrame
set_option maxHeartbeats 16000000 in
set_option maxRecDepth 100000 in
theorem pmstep_delN {w0 w : World} {a : Option Addr} {o : Option Nat} {room : Nat} {zs : List Cel} {bs : List (Nat × Obj)} {t : Tre} {root : Int} {p : Option Addr} {c : Nat} (from_ key val : Int) (h : PS w0 w (.pointer a) o room zs (.slice none 0 0) [] bs) (ht : Tr zs t root) (hsz : t.size ≤ 65536) (hsrt : SortL t.list) (hlv : LV bs (.slice p t.list.length c) t.list) (hkey : t.has key = false) :
    Calls Try.prog 15 #[.agg #[.pointer a, .int .i64 root, .pointer a, .slice p t.list.length c], .agg #[.int .i64 3, .int .i64 from_, .int .i64 key, .int .i64 val]] w (StepSame w0 a o room zs bs root p t.list.length c) := by
  have P3 := Lib.hid (((h.addAt (boxN ⟨a, root, a, p, t.list.length, c⟩) rfl).addAt (g := w.heap.size + 1) (boxD6 3 from_ key val) (by simp)).addAt (g := w.heap.size + 2) (boxN On.zero) (by simp))
  have HT := Lib.hid ht
  have hh : t.high ≤ 70000 := by have := t.high_le_size; omega
  have HLE := Lib.hid h.1.1.le
  have HN : Hid ((∀ q ∈ (w.heap.size + 1, boxD6 3 from_ key val) :: (w.heap.size, boxN ⟨a, root, a, p, t.list.length, c⟩) :: bs, q.1 ≠ w.heap.size + 2) ∧ w0.heap.size ≤ w.heap.size + 2) := Lib.hid ⟨fun q hq e => by
    simp only [List.mem_cons] at hq
    rcases hq with rfl | rfl | hq
    · simp only at e; omega
    · simp only at e; omega
    · have := heap_lt (h.2.2 q hq).1; omega, by have := h.1.2.1.size; omega⟩
  clear h ht
  obtain ⟨X0, hX0⟩ : ∃ X0, X0 = ((w.alloc (boxN ⟨a, root, a, p, t.list.length, c⟩)).alloc (boxD6 3 from_ key val)).alloc (boxN On.zero) := ⟨_, rfl⟩
  have hX1 : ((w.alloc (.cells #[.pointer a, .int .i64 root, .pointer a, .slice p t.list.length c] 31)).alloc (.cells #[.int .i64 3, .int .i64 from_, .int .i64 key, .int .i64 val] 34)).alloc (.cells #[.pointer none, .int .i64 0, .pointer none, .slice none 0 0] 31) = X0 := hX0.symm
  rw [← hX0] at P3
  clear hX0
  have HX1 := Lib.hid hX1
  clear hX1
  go_enter Try.func15, Try.ntmps15
  go_wp2_with fail
  rw [HX1.out]
  clear HX1
  obtain ⟨hgx, x0, x1, x2, x3⟩ := cellsN (P3.out.2.2 (w.heap.size, boxN ⟨a, root, a, p, t.list.length, c⟩) (by simp)).1
  simp only at x0 x1 x2 x3
  have k0 := cell_regrown x0
  have k1 := cell_regrown x1
  have k2 := cell_regrown x2
  have HR1 : Hid (∀ d os, Calls Try.prog 58 #[.pointer a] (grow (redrawn X0 d) os) fun e w'' => e = .returned (.int .i64 ((room : Int) - (zs.length : Int))) ∧ ∃ p : Regrown, w'' = grow (redrawn X0 p.d) p.os) := Lib.hid fun d os => Calls.regrown_of ((arroom_v (P3.out.below (below_regrown X0 d os)).1.1).mono fun _ _ ⟨e, n, h2⟩ => ⟨e, by rw [h2]; exact below_drewN (Below.refl _ _) n⟩)
  have HR2 : Hid (∀ d os, Calls Try.prog 60 #[.pointer a] (grow (redrawn X0 d) os) fun e w'' => e = .returned (.int .i64 (zs.length : Int)) ∧ ∃ p : Regrown, w'' = grow (redrawn X0 p.d) p.os) := Lib.hid fun d os => Calls.regrown_of ((arlen_v (P3.out.below (below_regrown X0 d os)).1.1).mono fun _ _ ⟨e, h2⟩ => ⟨e, by rw [← h2]; exact Below.refl _ _⟩)
  have HR3 : Hid (∀ d os, Calls Try.prog 22 #[.agg #[.pointer a, .int .i64 root]] (grow (redrawn X0 d) os) fun e w'' => e = .returned (.int .i64 (t.high : Int)) ∧ ∃ p : Regrown, w'' = grow (redrawn X0 p.d) p.os) := Lib.hid fun d os => Calls.regrown_of (pmhigh (P3.out.below (below_regrown X0 d os)).1.1 (t := t) (root := root) HT.out)
  refine wp_region_quiet_below (by kernel_rfl) (by kernel_rfl) ?_
  repeat (go_big_quiet_step (first | exact HR1.out _ _ | exact HR2.out _ _ | exact HR3.out _ _))
  refine wpQuiet_nil ?_
  intro _ hw'
  obtain ⟨⟨dq, osq⟩, hw''⟩ := hw'
  subst hw''
  have P4 := Lib.hid (P3.out.below (below_regrown X0 dq osq))
  obtain ⟨X1, hX1⟩ : ∃ X1, X1 = grow (redrawn X0 dq) osq := ⟨_, rfl⟩
  rw [← hX1] at P4
  rw [← hX1]
  clear hX1 P3 HR1 HR2 HR3 k0 k1 k2 hgx x0 x1 x2 x3
  obtain ⟨hgx, x0, x1, x2, x3⟩ := cellsN (P4.out.2.2 (w.heap.size, boxN ⟨a, root, a, p, t.list.length, c⟩) (by simp)).1
  obtain ⟨hgy, y0, y1, y2, y3⟩ := cellsD6 (P4.out.2.2 (w.heap.size + 1, boxD6 3 from_ key val) (by simp)).1
  simp only at x0 x1 x2 x3
  have hlE1 := HLE
  obtain ⟨hi, hhi⟩ : ∃ hi, hi = t.high := ⟨_, rfl⟩
  rw [← hhi] at hh
  try rw [← hhi]
  have HHI := Lib.hid hhi
  clear hhi
  have hle1 := hlE1.out.1
  have hle2 := hlE1.out.2
  have HLB : Hid ((delL key t.list).length ≤ 9223372036854775807) := Lib.hid (by unfold delL; exact Nat.le_trans (List.length_filter_le _ _) (by rw [Tre.list_len]; omega))
  have HLK := Lib.hid (link key 0 t hsrt)
  have HDR : Hid (Calls Try.prog 61 #[.slice p t.list.length c, .int .i64 key] X1 (PaiBool (delL key t.list) false X1)) := Lib.hid (by
    have h := del_ref (.slice p t.list.length c) t.list key X1 (hlv.pais (fun q hq => (P4.out.2.2 q (by simp [hq])).1) (by rw [Tre.list_len]; omega)) (by rw [Tre.list_len]; omega)
    rwa [← HLK.out.2.2.1, hkey] at h)
  go_wp2_with fail
  refine HDR.out.mono ?_
  rintro e w2 ⟨vl, rfl, hol, hb⟩
  obtain ⟨pl, cl, hvl, _, _⟩ := (hol.list HLB.out).open_
  subst hvl
  have P4b := Lib.hid (P4.out.below hb)
  clear hgx x0 x1 x2 x3 hgy y0 y1 y2 y3
  clear hb hol P4 HDR
  obtain ⟨hgx, x0, x1, x2, x3⟩ := cellsN (P4b.out.2.2 (w.heap.size, boxN ⟨a, root, a, p, t.list.length, c⟩) (by simp)).1
  obtain ⟨hgy, y0, y1, y2, y3⟩ := cellsD6 (P4b.out.2.2 (w.heap.size + 1, boxD6 3 from_ key val) (by simp)).1
  simp only at x0 x1 x2 x3
  go_wp2_with fail
  refine (pmdel_none key P4b.out.1.1 (t := t) (root := root) HT.out hkey).mono ?_
  rintro e w3 ⟨rfl, hb⟩
  have P5 := Lib.hid (P4b.out.below hb)
  clear hb P4b
  have HW3 : Hid (w.heap.size + 2 < w3.heap.size) := Lib.hid (heap_lt (P5.out.2.2 (w.heap.size + 2, boxN On.zero) (by simp)).1)
  clear hgx x0 x1 x2 x3 hgy y0 y1 y2 y3
  obtain ⟨hgx, x0, x1, x2, x3⟩ := cellsN (P5.out.2.2 (w.heap.size, boxN ⟨a, root, a, p, t.list.length, c⟩) (by simp)).1
  obtain ⟨hgy, y0, y1, y2, y3⟩ := cellsD6 (P5.out.2.2 (w.heap.size + 1, boxD6 3 from_ key val) (by simp)).1
  simp only at x0 x1 x2 x3
  go_wp2_with fail
  obtain ⟨wy, hwy⟩ : ∃ wy, wy = w3.alloc (.cells #[.pointer a, .int .i64 0] 27) := ⟨_, rfl⟩
  have P6 : Hid (PS w0 wy (.pointer a) o room zs (.slice none 0 0) [] ((w3.heap.size, boxM (.pointer a) 0) :: (w.heap.size + 2, boxN On.zero) :: (w.heap.size + 1, boxD6 3 from_ key val) :: (w.heap.size, boxN ⟨a, root, a, p, t.list.length, c⟩) :: bs)) := Lib.hid (by rw [hwy]; exact P5.out.addAt (boxM (.pointer a) 0) rfl)
  go_upto_region 15 with fail
  rw [← hwy]
  clear hwy hgx x0 x1 x2 x3 hgy y0 y1 y2 y3
  have HX : Hid (∀ X, Below wy.heap.size wy X → PS w0 X (.pointer a) o room zs (.slice none 0 0) [] ((w3.heap.size, boxM (.pointer a) 0) :: (w.heap.size + 2, boxN On.zero) :: (w.heap.size + 1, boxD6 3 from_ key val) :: (w.heap.size, boxN ⟨a, root, a, p, t.list.length, c⟩) :: bs)) := Lib.hid fun X hX => P6.out.below hX
  have HS : Hid (∀ X, Below wy.heap.size wy X → (fun X => (X.cell? ⟨w.heap.size, 0, none⟩ = some (.pointer a) ∧ X.cell? ⟨w.heap.size, 1, none⟩ = some (.int .i64 root) ∧ X.cell? ⟨w.heap.size, 2, none⟩ = some (.pointer a) ∧ X.cell? ⟨w.heap.size, 3, none⟩ = some (.slice p t.list.length c)) ∧ (X.cell? ⟨w.heap.size + 1, 2, none⟩ = some (.int .i64 key) ∧ X.cell? ⟨w.heap.size + 1, 3, none⟩ = some (.int .i64 val)) ∧ (X.cell? ⟨w3.heap.size, 0, none⟩ = some (.pointer a) ∧ X.cell? ⟨w3.heap.size, 1, none⟩ = some (.int .i64 0))) X) := Lib.hid fun X hX => ⟨(cellsN ((HX.out X hX).2.2 (w.heap.size, boxN ⟨a, root, a, p, t.list.length, c⟩) (by simp)).1).2, ⟨(cellsD6 ((HX.out X hX).2.2 (w.heap.size + 1, boxD6 3 from_ key val) (by simp)).1).2.2.2.1, (cellsD6 ((HX.out X hX).2.2 (w.heap.size + 1, boxD6 3 from_ key val) (by simp)).1).2.2.2.2⟩, (cellsM ((HX.out X hX).2.2 (w3.heap.size, boxM (.pointer a) 0) (by simp)).1).2⟩
  have BB0 : Hid (Below wy.heap.size wy wy.drew) := Lib.hid (Below.refl _ _).drew
  have HWY : Hid (w3.heap.size < wy.heap.size) := Lib.hid (heap_lt (P6.out.2.2 (w3.heap.size, boxM (.pointer a) 0) (by simp)).1)
  have HLe : Hid (∀ X, Below wy.heap.size wy X → Calls Try.prog 60 #[.pointer a] X (IntB (zs.length : Int) X)) := Lib.hid fun X hX => (arlen_v (HX.out X hX).1.1).mono fun _ _ ⟨e, h2⟩ => ⟨e, by rw [← h2]; exact Below.refl _ _⟩
  have HL0 : Hid (∀ X, Below wy.heap.size wy X → Calls Try.prog 23 #[.agg #[.pointer a, .int .i64 0]] X (IntB 0 X)) := Lib.hid fun X hX => pmlen (HX.out X hX).1.1 (t := .nil) (root := 0) rfl
  have HNN : Hid (∀ q ∈ (w3.heap.size, boxM (.pointer a) 0) :: (w.heap.size + 1, boxD6 3 from_ key val) :: (w.heap.size, boxN ⟨a, root, a, p, t.list.length, c⟩) :: bs, q.1 ≠ w.heap.size + 2) := Lib.hid fun q hq e => by
    simp only [List.mem_cons] at hq
    rcases hq with rfl | hq
    · simp only at e; have := HW3.out; omega
    · exact HN.out.1 q (by simp only [List.mem_cons]; exact hq) e
  refine wp_region_held_drew (S := (fun X => (X.cell? ⟨w.heap.size, 0, none⟩ = some (.pointer a) ∧ X.cell? ⟨w.heap.size, 1, none⟩ = some (.int .i64 root) ∧ X.cell? ⟨w.heap.size, 2, none⟩ = some (.pointer a) ∧ X.cell? ⟨w.heap.size, 3, none⟩ = some (.slice p t.list.length c)) ∧ (X.cell? ⟨w.heap.size + 1, 2, none⟩ = some (.int .i64 key) ∧ X.cell? ⟨w.heap.size + 1, 3, none⟩ = some (.int .i64 val)) ∧ (X.cell? ⟨w3.heap.size, 0, none⟩ = some (.pointer a) ∧ X.cell? ⟨w3.heap.size, 1, none⟩ = some (.int .i64 0)))) (by as_aux_lemma => kernel_rfl) (HS.out _ BB0.out) (fun hHeld0 => ?_)
  refine wpAnyH_take (i := 0) (v := ?_) rfl (by as_aux_lemma => kernel_rfl) (by as_aux_lemma => kernel_rfl) (by as_aux_lemma => kernel_rfl) (fun _ _ _ h => h) (Or.inl ⟨by rfl, ?ydn1⟩) (by assumption) ?qdn1
  case ydn1 => (intro wz hSw; (try dsimp only at hSw); go_simp <;> with_reducible rfl)
  try simp only [Act.put, List.getElem_toArray, List.getElem_cons_zero, List.setIfInBounds_toArray, List.set_cons_zero, List.set_cons_succ]
  refine wpAnyH_take (i := 1) (v := ?_) rfl (by as_aux_lemma => kernel_rfl) (by as_aux_lemma => kernel_rfl) (by as_aux_lemma => kernel_rfl) (fun _ _ _ h => h) (Or.inl ⟨by rfl, ?ydn2⟩) (by assumption) ?qdn2
  case ydn2 => (intro wz hSw; (try dsimp only at hSw); go_simp <;> with_reducible rfl)
  try simp only [Act.put, List.getElem_toArray, List.getElem_cons_zero, List.getElem_cons_succ, List.setIfInBounds_toArray, List.set_cons_zero, List.set_cons_succ]
  refine wpAnyH_take (i := 2) (v := ?_) rfl (by as_aux_lemma => kernel_rfl) (by as_aux_lemma => kernel_rfl) (by as_aux_lemma => kernel_rfl) (fun _ _ _ h => h) (Or.inl ⟨by rfl, ?ydn3⟩) (by assumption) ?qdn3
  case ydn3 => (intro wz hSw; (try dsimp only at hSw); go_simp <;> with_reducible rfl)
  try simp only [Act.put, List.getElem_toArray, List.getElem_cons_zero, List.getElem_cons_succ, List.setIfInBounds_toArray, List.set_cons_zero, List.set_cons_succ]
  refine wpAnyH_take (i := 3) (v := ?_) rfl (by as_aux_lemma => kernel_rfl) (by as_aux_lemma => kernel_rfl) (by as_aux_lemma => kernel_rfl) (fun _ _ _ h => h) (Or.inl ⟨by rfl, ?ydn4⟩) (by assumption) ?qdn4
  case ydn4 => (intro wz hSw; (try dsimp only at hSw); go_simp <;> with_reducible rfl)
  try simp only [Act.put, List.getElem_toArray, List.getElem_cons_zero, List.getElem_cons_succ, List.setIfInBounds_toArray, List.set_cons_zero, List.set_cons_succ]
  refine wpAnyH_take (i := 4) (v := ?_) rfl (by as_aux_lemma => kernel_rfl) (by as_aux_lemma => kernel_rfl) (by as_aux_lemma => kernel_rfl) (fun _ _ _ h => h) (Or.inl ⟨by rfl, ?ydn5⟩) (by assumption) ?qdn5
  case ydn5 => (intro wz hSw; (try dsimp only at hSw); go_simp <;> with_reducible rfl)
  try simp only [Act.put, List.getElem_toArray, List.getElem_cons_zero, List.getElem_cons_succ, List.setIfInBounds_toArray, List.set_cons_zero, List.set_cons_succ]
  refine wpAnyH_take (i := 5) (v := ?_) rfl (by as_aux_lemma => kernel_rfl) (by as_aux_lemma => kernel_rfl) (by as_aux_lemma => kernel_rfl) (fun _ _ _ h => h) (Or.inl ⟨by rfl, ?ydn6⟩) (by assumption) ?qdn6
  case ydn6 => (intro wz hSw; (try dsimp only at hSw); go_simp <;> with_reducible rfl)
  try simp only [Act.put, List.getElem_toArray, List.getElem_cons_zero, List.getElem_cons_succ, List.setIfInBounds_toArray, List.set_cons_zero, List.set_cons_succ]
  refine wpAnyH_take (i := 7) (v := ?_) rfl (by as_aux_lemma => kernel_rfl) (by as_aux_lemma => kernel_rfl) (by as_aux_lemma => kernel_rfl) (fun _ _ _ h => h) (Or.inl ⟨by rfl, ?ydn7⟩) (by assumption) ?qdn7
  case ydn7 => (intro wz hSw; (try dsimp only at hSw); go_simp <;> with_reducible rfl)
  try simp only [Act.put, List.getElem_toArray, List.getElem_cons_zero, List.getElem_cons_succ, List.setIfInBounds_toArray, List.set_cons_zero, List.set_cons_succ]
  refine wpAnyH_ready (rs := [6]) (by as_aux_lemma => kernel_rfl) (by simp) ?_
  refine AllReadyH.cons rfl (fun K hK => ?_) AllReadyH.nil
  go_simp
  refine (HLe.out _ BB0.out).mono ?_
  rintro e u8 ⟨rfl, hb⟩
  have CB8 := Lib.hid (Below.trans (show Below wy.heap.size wy _ from BB0.out) (hb.mono (show wy.heap.size ≤ _ from Below.size BB0.out)))
  clear hb
  refine hK.out _ _ ((HS.out _ CB8.out)) (fun hHeld8 => ?_)
  clear hK K
  try simp only [Act.put, List.getElem_toArray, List.getElem_cons_zero, List.getElem_cons_succ, List.setIfInBounds_toArray, List.set_cons_zero, List.set_cons_succ]
  refine wpAnyH_take (i := 8) (v := ?_) rfl (by as_aux_lemma => kernel_rfl) (by as_aux_lemma => kernel_rfl) (by as_aux_lemma => kernel_rfl) (fun _ _ _ h => h) (Or.inl ⟨by rfl, ?ydn9⟩) (by assumption) ?qdn9
  case ydn9 => (intro wz hSw; (try dsimp only at hSw); go_simp <;> with_reducible rfl)
  try simp only [Act.put, List.getElem_toArray, List.getElem_cons_zero, List.getElem_cons_succ, List.setIfInBounds_toArray, List.set_cons_zero, List.set_cons_succ]
  refine wpAnyH_take (i := 9) (v := ?_) rfl (by as_aux_lemma => kernel_rfl) (by as_aux_lemma => kernel_rfl) (by as_aux_lemma => kernel_rfl) (fun _ _ _ h => h) (Or.inl ⟨by rfl, ?ydn10⟩) (by assumption) ?qdn10
  case ydn10 => (intro wz hSw; (try dsimp only at hSw); go_simp <;> with_reducible rfl)
  try simp only [Act.put, List.getElem_toArray, List.getElem_cons_zero, List.getElem_cons_succ, List.setIfInBounds_toArray, List.set_cons_zero, List.set_cons_succ]
  refine wpAnyH_take (i := 10) (v := ?_) rfl (by as_aux_lemma => kernel_rfl) (by as_aux_lemma => kernel_rfl) (by as_aux_lemma => kernel_rfl) (fun _ _ _ h => h) (Or.inl ⟨by rfl, ?ydn11⟩) (by assumption) ?qdn11
  case ydn11 => (intro wz hSw; (try dsimp only at hSw); go_simp <;> with_reducible rfl)
  try simp only [Act.put, List.getElem_toArray, List.getElem_cons_zero, List.getElem_cons_succ, List.setIfInBounds_toArray, List.set_cons_zero, List.set_cons_succ]
  refine wpAnyH_take (i := 11) (v := ?_) rfl (by as_aux_lemma => kernel_rfl) (by as_aux_lemma => kernel_rfl) (by as_aux_lemma => kernel_rfl) (fun _ _ _ h => h) (Or.inl ⟨by rfl, ?ydn12⟩) (by assumption) ?qdn12
  case ydn12 => (intro wz hSw; (try dsimp only at hSw); go_simp <;> with_reducible rfl)
  try simp only [Act.put, List.getElem_toArray, List.getElem_cons_zero, List.getElem_cons_succ, List.setIfInBounds_toArray, List.set_cons_zero, List.set_cons_succ]
  refine wpAnyH_ready (rs := [12]) (by as_aux_lemma => kernel_rfl) (by simp) ?_
  refine AllReadyH.cons rfl (fun K hK => ?_) AllReadyH.nil
  go_simp
  refine (HL0.out _ CB8.out).mono ?_
  rintro e u13 ⟨rfl, hb⟩
  have CB13 := Lib.hid (Below.trans (show Below wy.heap.size wy _ from CB8.out) (hb.mono (show wy.heap.size ≤ _ from Below.size CB8.out)))
  clear hb
  refine hK.out _ _ ((HS.out _ CB13.out)) (fun hHeld13 => ?_)
  clear hK K
  try simp only [Act.put, List.getElem_toArray, List.getElem_cons_zero, List.getElem_cons_succ, List.setIfInBounds_toArray, List.set_cons_zero, List.set_cons_succ]
  refine wpAnyH_take (i := 13) (v := ?_) rfl (by as_aux_lemma => kernel_rfl) (by as_aux_lemma => kernel_rfl) (by as_aux_lemma => kernel_rfl) (fun _ _ _ h => h) (Or.inl ⟨by rfl, ?ydn14⟩) (by assumption) ?qdn14
  case ydn14 => (intro wz hSw; (try dsimp only at hSw); go_simp <;> with_reducible rfl)
  try simp only [Act.put, List.getElem_toArray, List.getElem_cons_zero, List.getElem_cons_succ, List.setIfInBounds_toArray, List.set_cons_zero, List.set_cons_succ]
  refine wpAnyH_take (i := 14) (v := ?_) rfl (by as_aux_lemma => kernel_rfl) (by as_aux_lemma => kernel_rfl) (by as_aux_lemma => kernel_rfl) (fun _ _ _ h => h) (Or.inl ⟨by rfl, ?ydn15⟩) (by assumption) ?qdn15
  case ydn15 => (intro wz hSw; (try dsimp only at hSw); go_simp <;> with_reducible rfl)
  try simp only [Act.put, List.getElem_toArray, List.getElem_cons_zero, List.getElem_cons_succ, List.setIfInBounds_toArray, List.set_cons_zero, List.set_cons_succ]
  refine wpAnyH_ready (rs := [15]) (by as_aux_lemma => kernel_rfl) (by simp) ?_
  refine AllReadyH.cons rfl (fun K hK => ?_) AllReadyH.nil
  rw [if_pos (by rfl)]
  refine wp_store_one (.tmp 4) (.tmp 99) rfl (w.heap.size + 2) ⟨a, root, a, p, t.list.length, c⟩ On.zero rfl rfl ((HX.out _ CB13.out).2.2 (w.heap.size + 2, boxN On.zero) (by simp)).1 ?_
  intro v16 hst
  have HF := Lib.hid (((HX.out _ CB13.out).drop (bs' := (w.heap.size + 2, boxN On.zero) :: (w3.heap.size, boxM (.pointer a) 0) :: (w.heap.size + 1, boxD6 3 from_ key val) :: (w.heap.size, boxN ⟨a, root, a, p, t.list.length, c⟩) :: bs) (by intro q hq; simp only [List.mem_cons] at hq ⊢; rcases hq with h | h | h | h | h <;> simp [h])).store HNN.out HN.out.2 hst)
  clear hst
  refine hK.out _ _ (⟨(cellsN (HF.out.2.2 (w.heap.size, boxN ⟨a, root, a, p, t.list.length, c⟩) (by simp)).1).2, ⟨(cellsD6 (HF.out.2.2 (w.heap.size + 1, boxD6 3 from_ key val) (by simp)).1).2.2.2.1, (cellsD6 (HF.out.2.2 (w.heap.size + 1, boxD6 3 from_ key val) (by simp)).1).2.2.2.2⟩, (cellsM (HF.out.2.2 (w3.heap.size, boxM (.pointer a) 0) (by simp)).1).2⟩) (fun hHeld16 => ?_)
  clear hK K
  try simp only [Act.put, List.getElem_toArray, List.getElem_cons_zero, List.getElem_cons_succ]
  refine wpAnyH_take (i := 16) (v := ?_) rfl (by as_aux_lemma => kernel_rfl) (by as_aux_lemma => kernel_rfl) (by as_aux_lemma => kernel_rfl) (fun _ _ _ h => h) (Or.inl ⟨by rfl, ?ydn17⟩) (by assumption) ?qdn17
  case ydn17 => (intro wz hSw; (try dsimp only at hSw); go_simp <;> with_reducible rfl)
  try simp only [Act.put, List.getElem_toArray, List.getElem_cons_zero, List.getElem_cons_succ, List.setIfInBounds_toArray, List.set_cons_zero, List.set_cons_succ]
  refine wpAnyH_done (by as_aux_lemma => kernel_rfl) ?_ _
  go_wp2_with fail
  exact bodyPost_ret (results_one _ _ (w.heap.size + 2) ⟨a, root, a, p, t.list.length, c⟩ true rfl rfl (HF.out.2.2 (w.heap.size + 2, boxN ⟨a, root, a, p, t.list.length, c⟩) (by simp)).1) rfl ⟨rfl, HF.out.drop (fun q hq => by simp [hq])⟩
set_option maxHeartbeats 16000000 in
set_option maxRecDepth 100000 in
theorem pmstep_del {w0 w : World} {a : Option Addr} {o : Option Nat} {room : Nat} {zs : List Cel} {bs : List (Nat × Obj)} {t : Tre} {root : Int} {p : Option Addr} {c : Nat} (from_ key val : Int) (h : PS w0 w (.pointer a) o room zs (.slice none 0 0) [] bs) (ht : Tr zs t root) (hsz : t.size ≤ 65536) (hsrt : SortL t.list) (hlv : LV bs (.slice p t.list.length c) t.list) (hkey : t.has key = true) :
    Calls Try.prog 15 #[.agg #[.pointer a, .int .i64 root, .pointer a, .slice p t.list.length c], .agg #[.int .i64 3, .int .i64 from_, .int .i64 key, .int .i64 val]] w fun e w' => (∃ o', StepSame w0 a o' room zs bs root p t.list.length c e w') ∨ StepOk w0 w a room zs bs (Tre.del key t) e w' := by
  have P3 := Lib.hid (((h.addAt (boxN ⟨a, root, a, p, t.list.length, c⟩) rfl).addAt (g := w.heap.size + 1) (boxD6 3 from_ key val) (by simp)).addAt (g := w.heap.size + 2) (boxN On.zero) (by simp))
  have HT := Lib.hid ht
  have hh : t.high ≤ 70000 := by have := t.high_le_size; omega
  have HLE := Lib.hid h.1.1.le
  have HN : Hid ((∀ q ∈ (w.heap.size + 1, boxD6 3 from_ key val) :: (w.heap.size, boxN ⟨a, root, a, p, t.list.length, c⟩) :: bs, q.1 ≠ w.heap.size + 2) ∧ w0.heap.size ≤ w.heap.size + 2) := Lib.hid ⟨fun q hq e => by
    simp only [List.mem_cons] at hq
    rcases hq with rfl | rfl | hq
    · simp only at e; omega
    · simp only at e; omega
    · have := heap_lt (h.2.2 q hq).1; omega, by have := h.1.2.1.size; omega⟩
  clear h ht
  obtain ⟨X0, hX0⟩ : ∃ X0, X0 = ((w.alloc (boxN ⟨a, root, a, p, t.list.length, c⟩)).alloc (boxD6 3 from_ key val)).alloc (boxN On.zero) := ⟨_, rfl⟩
  have hX1 : ((w.alloc (.cells #[.pointer a, .int .i64 root, .pointer a, .slice p t.list.length c] 31)).alloc (.cells #[.int .i64 3, .int .i64 from_, .int .i64 key, .int .i64 val] 34)).alloc (.cells #[.pointer none, .int .i64 0, .pointer none, .slice none 0 0] 31) = X0 := hX0.symm
  rw [← hX0] at P3
  clear hX0
  have HX1 := Lib.hid hX1
  clear hX1
  go_enter Try.func15, Try.ntmps15
  go_wp2_with fail
  rw [HX1.out]
  clear HX1
  obtain ⟨hgx, x0, x1, x2, x3⟩ := cellsN (P3.out.2.2 (w.heap.size, boxN ⟨a, root, a, p, t.list.length, c⟩) (by simp)).1
  simp only at x0 x1 x2 x3
  have k0 := cell_regrown x0
  have k1 := cell_regrown x1
  have k2 := cell_regrown x2
  have HR1 : Hid (∀ d os, Calls Try.prog 58 #[.pointer a] (grow (redrawn X0 d) os) fun e w'' => e = .returned (.int .i64 ((room : Int) - (zs.length : Int))) ∧ ∃ p : Regrown, w'' = grow (redrawn X0 p.d) p.os) := Lib.hid fun d os => Calls.regrown_of ((arroom_v (P3.out.below (below_regrown X0 d os)).1.1).mono fun _ _ ⟨e, n, h2⟩ => ⟨e, by rw [h2]; exact below_drewN (Below.refl _ _) n⟩)
  have HR2 : Hid (∀ d os, Calls Try.prog 60 #[.pointer a] (grow (redrawn X0 d) os) fun e w'' => e = .returned (.int .i64 (zs.length : Int)) ∧ ∃ p : Regrown, w'' = grow (redrawn X0 p.d) p.os) := Lib.hid fun d os => Calls.regrown_of ((arlen_v (P3.out.below (below_regrown X0 d os)).1.1).mono fun _ _ ⟨e, h2⟩ => ⟨e, by rw [← h2]; exact Below.refl _ _⟩)
  have HR3 : Hid (∀ d os, Calls Try.prog 22 #[.agg #[.pointer a, .int .i64 root]] (grow (redrawn X0 d) os) fun e w'' => e = .returned (.int .i64 (t.high : Int)) ∧ ∃ p : Regrown, w'' = grow (redrawn X0 p.d) p.os) := Lib.hid fun d os => Calls.regrown_of (pmhigh (P3.out.below (below_regrown X0 d os)).1.1 (t := t) (root := root) HT.out)
  refine wp_region_quiet_below (by kernel_rfl) (by kernel_rfl) ?_
  repeat (go_big_quiet_step (first | exact HR1.out _ _ | exact HR2.out _ _ | exact HR3.out _ _))
  refine wpQuiet_nil ?_
  intro _ hw'
  obtain ⟨⟨dq, osq⟩, hw''⟩ := hw'
  subst hw''
  have P4 := Lib.hid (P3.out.below (below_regrown X0 dq osq))
  obtain ⟨X1, hX1⟩ : ∃ X1, X1 = grow (redrawn X0 dq) osq := ⟨_, rfl⟩
  rw [← hX1] at P4
  rw [← hX1]
  clear hX1 P3 HR1 HR2 HR3 k0 k1 k2 hgx x0 x1 x2 x3
  obtain ⟨hgx, x0, x1, x2, x3⟩ := cellsN (P4.out.2.2 (w.heap.size, boxN ⟨a, root, a, p, t.list.length, c⟩) (by simp)).1
  obtain ⟨hgy, y0, y1, y2, y3⟩ := cellsD6 (P4.out.2.2 (w.heap.size + 1, boxD6 3 from_ key val) (by simp)).1
  simp only at x0 x1 x2 x3
  have hlE1 := HLE
  obtain ⟨hi, hhi⟩ : ∃ hi, hi = t.high := ⟨_, rfl⟩
  rw [← hhi] at hh
  try rw [← hhi]
  have HHI := Lib.hid hhi
  clear hhi
  have hle1 := hlE1.out.1
  have hle2 := hlE1.out.2
  have HLB : Hid ((delL key t.list).length ≤ 9223372036854775807) := Lib.hid (by unfold delL; exact Nat.le_trans (List.length_filter_le _ _) (by rw [Tre.list_len]; omega))
  have HLK := Lib.hid (link key 0 t hsrt)
  have HDR : Hid (Calls Try.prog 61 #[.slice p t.list.length c, .int .i64 key] X1 (PaiBool (delL key t.list) true X1)) := Lib.hid (by
    have h := del_ref (.slice p t.list.length c) t.list key X1 (hlv.pais (fun q hq => (P4.out.2.2 q (by simp [hq])).1) (by rw [Tre.list_len]; omega)) (by rw [Tre.list_len]; omega)
    rwa [← HLK.out.2.2.1, hkey] at h)
  go_wp2_with fail
  refine HDR.out.mono ?_
  rintro e w2 ⟨vl, rfl, hol, hb⟩
  obtain ⟨pl, cl, hvl, _, _⟩ := (hol.list HLB.out).open_
  subst hvl
  obtain ⟨nb, hPL, hLV, hnb⟩ := PS.list P4.out hb hol
  have HNB : Hid (∀ q ∈ nb, w.heap.size + 2 < q.1) := Lib.hid fun q hq => Nat.lt_of_lt_of_le (heap_lt (P4.out.2.2 (w.heap.size + 2, boxN On.zero) (by simp)).1) (hnb q hq)
  have HLV := Lib.hid hLV
  have PL := Lib.hid hPL
  have HDL : Hid (delL key t.list = (Tre.del key t).list) := Lib.hid (HLK.out.2.2.2.2.2 hkey).1.symm
  rw [HDL.out] at HLV
  clear hgx x0 x1 x2 x3 hgy y0 y1 y2 y3
  clear hb hol hPL hLV hnb P4 HDR
  obtain ⟨hgx, x0, x1, x2, x3⟩ := cellsN (PL.out.2.2 (w.heap.size, boxN ⟨a, root, a, p, t.list.length, c⟩) (by simp)).1
  obtain ⟨hgy, y0, y1, y2, y3⟩ := cellsD6 (PL.out.2.2 (w.heap.size + 1, boxD6 3 from_ key val) (by simp)).1
  simp only at x0 x1 x2 x3
  go_wp2_with fail
  refine (pmdel key PL.out.1.1 (t := t) (root := root) HT.out (by omega) hkey).mono ?_
  intro e w3 hp
  obtain ⟨rt2, why, zs2, hs, hM⟩ := hp.step
  obtain ⟨rfl, o2, P5⟩ := PL.out.step hs
  clear hp hs PL
  have HW3 : Hid (w.heap.size + 2 < w3.heap.size) := Lib.hid (heap_lt (P5.out.2.2 (w.heap.size + 2, boxN On.zero) (by simp)).1)
  clear hgx x0 x1 x2 x3 hgy y0 y1 y2 y3
  obtain ⟨hgx, x0, x1, x2, x3⟩ := cellsN (P5.out.2.2 (w.heap.size, boxN ⟨a, root, a, p, t.list.length, c⟩) (by simp)).1
  obtain ⟨hgy, y0, y1, y2, y3⟩ := cellsD6 (P5.out.2.2 (w.heap.size + 1, boxD6 3 from_ key val) (by simp)).1
  simp only at x0 x1 x2 x3
  rcases hM.out with ⟨rfl, hP⟩ | ⟨rfl, hzz, rfl, hZ⟩
  · have HP := Lib.hid hP
    clear hP hM
    have P6 := Lib.hid ((P5.out.addAt (g := w3.heap.size) (boxM (.pointer a) rt2) rfl).drop (bs' := (w.heap.size + 2, boxN On.zero) :: (nb ++ bs)) (by intro q hq; simp only [List.mem_cons, List.mem_append] at hq ⊢; rcases hq with h | h | h <;> simp [h]))
    go_wp2_with (refine wpList_store_one rfl (.tmp 4) (.tmp 135) rfl (w.heap.size + 2) ⟨a, rt2, a, pl, (delL key t.list).length, cl⟩ On.zero rfl rfl (P6.out.2.2 (w.heap.size + 2, boxN On.zero) (by simp)).1 ?_; intro w4 hst; have HF := Lib.hid (P6.out.store (fun q hq => by rcases List.mem_append.1 hq with hq | hq; exact Nat.ne_of_gt (HNB.out q hq); exact HN.out.1 q (by simp [hq])) HN.out.2 hst); clear hst)
    refine bodyPost_ret (results_one _ _ (w.heap.size + 2) ⟨a, rt2, a, pl, (delL key t.list).length, cl⟩ true rfl rfl (HF.out.2.2 (w.heap.size + 2, boxN ⟨a, rt2, a, pl, (delL key t.list).length, cl⟩) (by simp)).1) rfl (.inr ⟨o2, zs2, rt2, pl, cl, nb, by rw [HDL.out], HP.out.1.imp fun new h => h.1, HP.out.2, HLV.out, fun q hq => by have := HNB.out q hq; omega, HF.out.drop (fun q hq => by simp only [List.mem_cons]; exact .inr hq)⟩)
  · obtain rfl : zs = zs2 := hzz.symm
    have hen : decide (3 * ((hi : Int) + 1) ≤ (room : Int) - (zs.length : Int)) = false := by rw [decide_eq_false_iff_not]; have := HHI.out; omega
    clear hM hZ
    have P5 := Lib.hid (P5.out.drop (bs' := (w.heap.size + 2, boxN On.zero) :: (w.heap.size + 1, boxD6 3 from_ key val) :: (w.heap.size, boxN ⟨a, root, a, p, t.list.length, c⟩) :: bs) (by intro q hq; simp only [List.mem_cons] at hq ⊢; rcases hq with h | h | h | h <;> simp [h]))
    go_wp2_with fail
    obtain ⟨wy, hwy⟩ : ∃ wy, wy = w3.alloc (.cells #[.pointer a, .int .i64 0] 27) := ⟨_, rfl⟩
    have P6 : Hid (PS w0 wy (.pointer a) o2 room zs (.slice none 0 0) [] ((w3.heap.size, boxM (.pointer a) 0) :: (w.heap.size + 2, boxN On.zero) :: (w.heap.size + 1, boxD6 3 from_ key val) :: (w.heap.size, boxN ⟨a, root, a, p, t.list.length, c⟩) :: bs)) := Lib.hid (by rw [hwy]; exact P5.out.addAt (boxM (.pointer a) 0) rfl)
    go_upto_region 17 with fail
    rw [← hwy]
    clear hwy hgx x0 x1 x2 x3 hgy y0 y1 y2 y3
    have HX : Hid (∀ X, Below wy.heap.size wy X → PS w0 X (.pointer a) o2 room zs (.slice none 0 0) [] ((w3.heap.size, boxM (.pointer a) 0) :: (w.heap.size + 2, boxN On.zero) :: (w.heap.size + 1, boxD6 3 from_ key val) :: (w.heap.size, boxN ⟨a, root, a, p, t.list.length, c⟩) :: bs)) := Lib.hid fun X hX => P6.out.below hX
    have HS : Hid (∀ X, Below wy.heap.size wy X → (fun X => (X.cell? ⟨w.heap.size, 0, none⟩ = some (.pointer a) ∧ X.cell? ⟨w.heap.size, 1, none⟩ = some (.int .i64 root) ∧ X.cell? ⟨w.heap.size, 2, none⟩ = some (.pointer a) ∧ X.cell? ⟨w.heap.size, 3, none⟩ = some (.slice p t.list.length c)) ∧ (X.cell? ⟨w.heap.size + 1, 2, none⟩ = some (.int .i64 key) ∧ X.cell? ⟨w.heap.size + 1, 3, none⟩ = some (.int .i64 val)) ∧ (X.cell? ⟨w3.heap.size, 0, none⟩ = some (.pointer a) ∧ X.cell? ⟨w3.heap.size, 1, none⟩ = some (.int .i64 0))) X) := Lib.hid fun X hX => ⟨(cellsN ((HX.out X hX).2.2 (w.heap.size, boxN ⟨a, root, a, p, t.list.length, c⟩) (by simp)).1).2, ⟨(cellsD6 ((HX.out X hX).2.2 (w.heap.size + 1, boxD6 3 from_ key val) (by simp)).1).2.2.2.1, (cellsD6 ((HX.out X hX).2.2 (w.heap.size + 1, boxD6 3 from_ key val) (by simp)).1).2.2.2.2⟩, (cellsM ((HX.out X hX).2.2 (w3.heap.size, boxM (.pointer a) 0) (by simp)).1).2⟩
    have BB0 : Hid (Below wy.heap.size wy wy.drew) := Lib.hid (Below.refl _ _).drew
    have HWY : Hid (w3.heap.size < wy.heap.size) := Lib.hid (heap_lt (P6.out.2.2 (w3.heap.size, boxM (.pointer a) 0) (by simp)).1)
    have HLe : Hid (∀ X, Below wy.heap.size wy X → Calls Try.prog 60 #[.pointer a] X (IntB (zs.length : Int) X)) := Lib.hid fun X hX => (arlen_v (HX.out X hX).1.1).mono fun _ _ ⟨e, h2⟩ => ⟨e, by rw [← h2]; exact Below.refl _ _⟩
    have HL0 : Hid (∀ X, Below wy.heap.size wy X → Calls Try.prog 23 #[.agg #[.pointer a, .int .i64 0]] X (IntB 0 X)) := Lib.hid fun X hX => pmlen (HX.out X hX).1.1 (t := .nil) (root := 0) rfl
    have HNN : Hid (∀ q ∈ (w3.heap.size, boxM (.pointer a) 0) :: (w.heap.size + 1, boxD6 3 from_ key val) :: (w.heap.size, boxN ⟨a, root, a, p, t.list.length, c⟩) :: bs, q.1 ≠ w.heap.size + 2) := Lib.hid fun q hq e => by
      simp only [List.mem_cons] at hq
      rcases hq with rfl | hq
      · simp only at e; have := HW3.out; omega
      · exact HN.out.1 q (by simp only [List.mem_cons]; exact hq) e
    refine wp_region_held_drew (S := (fun X => (X.cell? ⟨w.heap.size, 0, none⟩ = some (.pointer a) ∧ X.cell? ⟨w.heap.size, 1, none⟩ = some (.int .i64 root) ∧ X.cell? ⟨w.heap.size, 2, none⟩ = some (.pointer a) ∧ X.cell? ⟨w.heap.size, 3, none⟩ = some (.slice p t.list.length c)) ∧ (X.cell? ⟨w.heap.size + 1, 2, none⟩ = some (.int .i64 key) ∧ X.cell? ⟨w.heap.size + 1, 3, none⟩ = some (.int .i64 val)) ∧ (X.cell? ⟨w3.heap.size, 0, none⟩ = some (.pointer a) ∧ X.cell? ⟨w3.heap.size, 1, none⟩ = some (.int .i64 0)))) (by as_aux_lemma => kernel_rfl) (HS.out _ BB0.out) (fun hHeld0 => ?_)
    refine wpAnyH_take (i := 0) (v := ?_) rfl (by as_aux_lemma => kernel_rfl) (by as_aux_lemma => kernel_rfl) (by as_aux_lemma => kernel_rfl) (fun _ _ _ h => h) (Or.inl ⟨by rfl, ?ydf1⟩) (by assumption) ?qdf1
    case ydf1 => (intro wz hSw; (try dsimp only at hSw); go_simp <;> with_reducible rfl)
    try simp only [Act.put, List.getElem_toArray, List.getElem_cons_zero, List.setIfInBounds_toArray, List.set_cons_zero, List.set_cons_succ]
    refine wpAnyH_take (i := 1) (v := ?_) rfl (by as_aux_lemma => kernel_rfl) (by as_aux_lemma => kernel_rfl) (by as_aux_lemma => kernel_rfl) (fun _ _ _ h => h) (Or.inl ⟨by rfl, ?ydf2⟩) (by assumption) ?qdf2
    case ydf2 => (intro wz hSw; (try dsimp only at hSw); go_simp <;> with_reducible rfl)
    try simp only [Act.put, List.getElem_toArray, List.getElem_cons_zero, List.getElem_cons_succ, List.setIfInBounds_toArray, List.set_cons_zero, List.set_cons_succ]
    refine wpAnyH_take (i := 2) (v := ?_) rfl (by as_aux_lemma => kernel_rfl) (by as_aux_lemma => kernel_rfl) (by as_aux_lemma => kernel_rfl) (fun _ _ _ h => h) (Or.inl ⟨by rfl, ?ydf3⟩) (by assumption) ?qdf3
    case ydf3 => (intro wz hSw; (try dsimp only at hSw); go_simp <;> with_reducible rfl)
    try simp only [Act.put, List.getElem_toArray, List.getElem_cons_zero, List.getElem_cons_succ, List.setIfInBounds_toArray, List.set_cons_zero, List.set_cons_succ]
    refine wpAnyH_take (i := 3) (v := ?_) rfl (by as_aux_lemma => kernel_rfl) (by as_aux_lemma => kernel_rfl) (by as_aux_lemma => kernel_rfl) (fun _ _ _ h => h) (Or.inl ⟨by rfl, ?ydf4⟩) (by assumption) ?qdf4
    case ydf4 => (intro wz hSw; (try dsimp only at hSw); go_simp <;> with_reducible rfl)
    try simp only [Act.put, List.getElem_toArray, List.getElem_cons_zero, List.getElem_cons_succ, List.setIfInBounds_toArray, List.set_cons_zero, List.set_cons_succ]
    refine wpAnyH_take (i := 4) (v := ?_) rfl (by as_aux_lemma => kernel_rfl) (by as_aux_lemma => kernel_rfl) (by as_aux_lemma => kernel_rfl) (fun _ _ _ h => h) (Or.inl ⟨by rfl, ?ydf5⟩) (by assumption) ?qdf5
    case ydf5 => (intro wz hSw; (try dsimp only at hSw); go_simp <;> with_reducible rfl)
    try simp only [Act.put, List.getElem_toArray, List.getElem_cons_zero, List.getElem_cons_succ, List.setIfInBounds_toArray, List.set_cons_zero, List.set_cons_succ]
    refine wpAnyH_take (i := 5) (v := ?_) rfl (by as_aux_lemma => kernel_rfl) (by as_aux_lemma => kernel_rfl) (by as_aux_lemma => kernel_rfl) (fun _ _ _ h => h) (Or.inl ⟨by rfl, ?ydf6⟩) (by assumption) ?qdf6
    case ydf6 => (intro wz hSw; (try dsimp only at hSw); go_simp <;> with_reducible rfl)
    try simp only [Act.put, List.getElem_toArray, List.getElem_cons_zero, List.getElem_cons_succ, List.setIfInBounds_toArray, List.set_cons_zero, List.set_cons_succ]
    refine wpAnyH_take (i := 7) (v := ?_) rfl (by as_aux_lemma => kernel_rfl) (by as_aux_lemma => kernel_rfl) (by as_aux_lemma => kernel_rfl) (fun _ _ _ h => h) (Or.inl ⟨by rfl, ?ydf7⟩) (by assumption) ?qdf7
    case ydf7 => (intro wz hSw; (try dsimp only at hSw); go_simp <;> with_reducible rfl)
    try simp only [Act.put, List.getElem_toArray, List.getElem_cons_zero, List.getElem_cons_succ, List.setIfInBounds_toArray, List.set_cons_zero, List.set_cons_succ]
    refine wpAnyH_ready (rs := [6]) (by as_aux_lemma => kernel_rfl) (by simp) ?_
    refine AllReadyH.cons rfl (fun K hK => ?_) AllReadyH.nil
    go_simp
    refine (HLe.out _ BB0.out).mono ?_
    rintro e u8 ⟨rfl, hb⟩
    have CB8 := Lib.hid (Below.trans (show Below wy.heap.size wy _ from BB0.out) (hb.mono (show wy.heap.size ≤ _ from Below.size BB0.out)))
    clear hb
    refine hK.out _ _ ((HS.out _ CB8.out)) (fun hHeld8 => ?_)
    clear hK K
    try simp only [Act.put, List.getElem_toArray, List.getElem_cons_zero, List.getElem_cons_succ, List.setIfInBounds_toArray, List.set_cons_zero, List.set_cons_succ]
    refine wpAnyH_take (i := 8) (v := ?_) rfl (by as_aux_lemma => kernel_rfl) (by as_aux_lemma => kernel_rfl) (by as_aux_lemma => kernel_rfl) (fun _ _ _ h => h) (Or.inl ⟨by rfl, ?ydf9⟩) (by assumption) ?qdf9
    case ydf9 => (intro wz hSw; (try dsimp only at hSw); go_simp <;> with_reducible rfl)
    try simp only [Act.put, List.getElem_toArray, List.getElem_cons_zero, List.getElem_cons_succ, List.setIfInBounds_toArray, List.set_cons_zero, List.set_cons_succ]
    refine wpAnyH_take (i := 9) (v := ?_) rfl (by as_aux_lemma => kernel_rfl) (by as_aux_lemma => kernel_rfl) (by as_aux_lemma => kernel_rfl) (fun _ _ _ h => h) (Or.inl ⟨by rfl, ?ydf10⟩) (by assumption) ?qdf10
    case ydf10 => (intro wz hSw; (try dsimp only at hSw); go_simp <;> with_reducible rfl)
    try simp only [Act.put, List.getElem_toArray, List.getElem_cons_zero, List.getElem_cons_succ, List.setIfInBounds_toArray, List.set_cons_zero, List.set_cons_succ]
    refine wpAnyH_take (i := 10) (v := ?_) rfl (by as_aux_lemma => kernel_rfl) (by as_aux_lemma => kernel_rfl) (by as_aux_lemma => kernel_rfl) (fun _ _ _ h => h) (Or.inl ⟨by rfl, ?ydf11⟩) (by assumption) ?qdf11
    case ydf11 => (intro wz hSw; (try dsimp only at hSw); go_simp <;> with_reducible rfl)
    try simp only [Act.put, List.getElem_toArray, List.getElem_cons_zero, List.getElem_cons_succ, List.setIfInBounds_toArray, List.set_cons_zero, List.set_cons_succ]
    refine wpAnyH_take (i := 11) (v := ?_) rfl (by as_aux_lemma => kernel_rfl) (by as_aux_lemma => kernel_rfl) (by as_aux_lemma => kernel_rfl) (fun _ _ _ h => h) (Or.inl ⟨by rfl, ?ydf12⟩) (by assumption) ?qdf12
    case ydf12 => (intro wz hSw; (try dsimp only at hSw); go_simp <;> with_reducible rfl)
    try simp only [Act.put, List.getElem_toArray, List.getElem_cons_zero, List.getElem_cons_succ, List.setIfInBounds_toArray, List.set_cons_zero, List.set_cons_succ]
    refine wpAnyH_ready (rs := [12]) (by as_aux_lemma => kernel_rfl) (by simp) ?_
    refine AllReadyH.cons rfl (fun K hK => ?_) AllReadyH.nil
    go_simp
    refine (HL0.out _ CB8.out).mono ?_
    rintro e u13 ⟨rfl, hb⟩
    have CB13 := Lib.hid (Below.trans (show Below wy.heap.size wy _ from CB8.out) (hb.mono (show wy.heap.size ≤ _ from Below.size CB8.out)))
    clear hb
    refine hK.out _ _ ((HS.out _ CB13.out)) (fun hHeld13 => ?_)
    clear hK K
    try simp only [Act.put, List.getElem_toArray, List.getElem_cons_zero, List.getElem_cons_succ, List.setIfInBounds_toArray, List.set_cons_zero, List.set_cons_succ]
    refine wpAnyH_take (i := 13) (v := ?_) rfl (by as_aux_lemma => kernel_rfl) (by as_aux_lemma => kernel_rfl) (by as_aux_lemma => kernel_rfl) (fun _ _ _ h => h) (Or.inl ⟨by rfl, ?ydf14⟩) (by assumption) ?qdf14
    case ydf14 => (intro wz hSw; (try dsimp only at hSw); go_simp <;> with_reducible rfl)
    try simp only [Act.put, List.getElem_toArray, List.getElem_cons_zero, List.getElem_cons_succ, List.setIfInBounds_toArray, List.set_cons_zero, List.set_cons_succ]
    refine wpAnyH_take (i := 14) (v := ?_) rfl (by as_aux_lemma => kernel_rfl) (by as_aux_lemma => kernel_rfl) (by as_aux_lemma => kernel_rfl) (fun _ _ _ h => h) (Or.inl ⟨by rfl, ?ydf15⟩) (by assumption) ?qdf15
    case ydf15 => (intro wz hSw; (try dsimp only at hSw); go_simp <;> with_reducible rfl)
    try simp only [Act.put, List.getElem_toArray, List.getElem_cons_zero, List.getElem_cons_succ, List.setIfInBounds_toArray, List.set_cons_zero, List.set_cons_succ]
    refine wpAnyH_ready (rs := [15]) (by as_aux_lemma => kernel_rfl) (by simp) ?_
    refine AllReadyH.cons rfl (fun K hK => ?_) AllReadyH.nil
    rw [if_pos (by rfl)]
    refine wp_store_one (.tmp 4) (.tmp 116) rfl (w.heap.size + 2) ⟨a, root, a, p, t.list.length, c⟩ On.zero rfl rfl ((HX.out _ CB13.out).2.2 (w.heap.size + 2, boxN On.zero) (by simp)).1 ?_
    intro v16 hst
    have HF := Lib.hid (((HX.out _ CB13.out).drop (bs' := (w.heap.size + 2, boxN On.zero) :: (w3.heap.size, boxM (.pointer a) 0) :: (w.heap.size + 1, boxD6 3 from_ key val) :: (w.heap.size, boxN ⟨a, root, a, p, t.list.length, c⟩) :: bs) (by intro q hq; simp only [List.mem_cons] at hq ⊢; rcases hq with h | h | h | h | h <;> simp [h])).store HNN.out HN.out.2 hst)
    clear hst
    refine hK.out _ _ (⟨(cellsN (HF.out.2.2 (w.heap.size, boxN ⟨a, root, a, p, t.list.length, c⟩) (by simp)).1).2, ⟨(cellsD6 (HF.out.2.2 (w.heap.size + 1, boxD6 3 from_ key val) (by simp)).1).2.2.2.1, (cellsD6 (HF.out.2.2 (w.heap.size + 1, boxD6 3 from_ key val) (by simp)).1).2.2.2.2⟩, (cellsM (HF.out.2.2 (w3.heap.size, boxM (.pointer a) 0) (by simp)).1).2⟩) (fun hHeld16 => ?_)
    clear hK K
    try simp only [Act.put, List.getElem_toArray, List.getElem_cons_zero, List.getElem_cons_succ]
    refine wpAnyH_take (i := 16) (v := ?_) rfl (by as_aux_lemma => kernel_rfl) (by as_aux_lemma => kernel_rfl) (by as_aux_lemma => kernel_rfl) (fun _ _ _ h => h) (Or.inl ⟨by rfl, ?ydf17⟩) (by assumption) ?qdf17
    case ydf17 => (intro wz hSw; (try dsimp only at hSw); go_simp <;> with_reducible rfl)
    try simp only [Act.put, List.getElem_toArray, List.getElem_cons_zero, List.getElem_cons_succ, List.setIfInBounds_toArray, List.set_cons_zero, List.set_cons_succ]
    refine wpAnyH_done (by as_aux_lemma => kernel_rfl) ?_ _
    go_wp2_with fail
    exact bodyPost_ret (results_one _ _ (w.heap.size + 2) ⟨a, root, a, p, t.list.length, c⟩ true rfl rfl (HF.out.2.2 (w.heap.size + 2, boxN ⟨a, root, a, p, t.list.length, c⟩) (by simp)).1) rfl (.inl ⟨o2, rfl, HF.out.drop (fun q hq => by simp [hq])⟩)

end Go.Proofs.Ytpmimngngehmlaa.F
