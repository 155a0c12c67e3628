/-
  MapPlays: step's contract, a deed of kind 4 (Move). Not a statement of the seat.
-/
import Derived.Test.YtpmimngngehmlaaPmStep
import Derived.Test.YtpmimngngehmlaaArRoom
namespace Go.Proofs.Ytpmimngngehmlaa.F
open Go.ChangeShapes Go.WideShapes Go.ChangeAt Go.RowKit Go.Sort Base BigFrame
/-- New blocks are kept, too. -/
theorem PS.keepNews {w0 wa w : World} {pv : Value} {o : Option Nat} {room : Nat} {zs : List Cel} {bs es : List (Nat × Obj)} (h : PS w0 wa pv o room zs (.slice none 0 0) [] bs) (hb : Below wa.heap.size wa w) (he : ∀ q ∈ es, w.heap[q.1]? = some q.2 ∧ wa.heap.size ≤ q.1) : PS w0 w pv o room zs (.slice none 0 0) [] (es ++ bs) := by
  have h2 := h.below hb
  refine ⟨h2.1, h2.2.1, fun q hq => ?_⟩
  rcases List.mem_append.1 hq with hq | hq
  · exact ⟨(he q hq).1, fun k => by have := h.1.1.lt _ k; have := (he q hq).2; omega⟩
  · exact h2.2.2 q hq
/-- What a move leaves: another arena, with the same pairs. -/
def StepMv (w0 w : World) (a : Option Addr) (o : Option Nat) (room : Nat) (zs : List Cel) (bs : List (Nat × Obj)) (p : Option Addr) (n c : Nat) (T : Tre) (val : Int) (e : Ending) (w' : World) : Prop :=
  ∃ b2 o2 zs2 root2 es, e = .returned (.tuple #[.agg #[.pointer (some ⟨b2, 0, none⟩), .int .i64 root2, .pointer (some ⟨b2, 0, none⟩), .slice p n c], .bool true]) ∧ Rest es ⟨.pointer (some ⟨b2, 0, none⟩), o2, roomOf val, zs2⟩ ∧ zs2.length = T.size ∧ Tr zs2 T root2 ∧ (∀ q ∈ es, w.heap.size ≤ q.1) ∧ PS w0 w' (.pointer a) o room zs (.slice none 0 0) [] (es ++ bs)
theorem move_blocks {X1 w2 w3 : World} {o2 : Option Nat} {zs2 : List Cel} {room2 : Nat} (hb : Below X1.heap.size X1 w2) (hA : ArV w3 (.pointer (some ⟨X1.heap.size, 0, none⟩)) o2 room2 zs2) (hm : Mv none o2 w2) (hf : Fr (VF (.pointer (some ⟨X1.heap.size, 0, none⟩)) none) w2 w3) :
    Below X1.heap.size X1 w3 ∧ ∃ es, Rest es ⟨.pointer (some ⟨X1.heap.size, 0, none⟩), o2, room2, zs2⟩ ∧ ∀ q ∈ es, w3.heap[q.1]? = some q.2 ∧ X1.heap.size ≤ q.1 := by
  refine ⟨hb.trans (hf.below (fun g hg => ?_) hb.size), ?_⟩
  · rcases hg with hg | hg
    · injection hg with hg; injection hg with hg; injection hg with hg; omega
    · cases hg
  · obtain ⟨es, h1, h2⟩ := hA.rest
    refine ⟨es, h2, fun q hq => ⟨h1 q hq, ?_⟩⟩
    rcases (h2.1 q.1).2 ⟨q, hq, rfl⟩ with k | k
    · injection k with k; injection k with k; injection k with k; omega
    · rcases hm with rfl | ⟨g, e, hg⟩
      · cases k
      · simp only at k
        rw [e] at k; injection k with k; have := hb.size; omega
set_option maxHeartbeats 16000000 in
set_option maxRecDepth 100000 in
theorem pmstep_move {w0 w : World} {a : Option Addr} {o : Option Nat} {room : Nat} {zs : List Cel} {bs : List (Nat × Obj)} {t : Tre} {root : Int} {p : Option Addr} {c : Nat} (from_ key val : Int) (h : PS w0 w (.pointer a) o room zs (.slice none 0 0) [] bs) (ht : Tr zs t root) (hsz : t.size ≤ 65536) (hsz1 : t.size < 65536) :
    Calls Try.prog 15 #[.agg #[.pointer a, .int .i64 root, .pointer a, .slice p t.list.length c], .agg #[.int .i64 4, .int .i64 from_, .int .i64 key, .int .i64 val]] w fun e w' => StepSame w0 a o room zs bs root p t.list.length c e w' ∨ StepMv w0 w a o room zs bs p t.list.length c (mkT t.list) val e w' := by
  have P3 := Lib.hid (((h.addAt (boxN ⟨a, root, a, p, t.list.length, c⟩) rfl).addAt (g := w.heap.size + 1) (boxD6 4 from_ key val) (by simp)).addAt (g := w.heap.size + 2) (boxN On.zero) (by simp))
  have HT := Lib.hid ht
  have hh : t.high ≤ 70000 := by have := t.high_le_size; omega
  have HLE := Lib.hid h.1.1.le
  have HN : Hid ((∀ q ∈ (w.heap.size + 1, boxD6 4 from_ key val) :: (w.heap.size, boxN ⟨a, root, a, p, t.list.length, c⟩) :: bs, q.1 ≠ w.heap.size + 2) ∧ w0.heap.size ≤ w.heap.size + 2) := Lib.hid ⟨fun q hq e => by
    simp only [List.mem_cons] at hq
    rcases hq with rfl | rfl | hq
    · simp only at e; omega
    · simp only at e; omega
    · have := heap_lt (h.2.2 q hq).1; omega, by have := h.1.2.1.size; omega⟩
  clear h ht
  obtain ⟨X0, hX0⟩ : ∃ X0, X0 = ((w.alloc (boxN ⟨a, root, a, p, t.list.length, c⟩)).alloc (boxD6 4 from_ key val)).alloc (boxN On.zero) := ⟨_, rfl⟩
  have hX1 : ((w.alloc (.cells #[.pointer a, .int .i64 root, .pointer a, .slice p t.list.length c] 31)).alloc (.cells #[.int .i64 4, .int .i64 from_, .int .i64 key, .int .i64 val] 34)).alloc (.cells #[.pointer none, .int .i64 0, .pointer none, .slice none 0 0] 31) = X0 := hX0.symm
  rw [← hX0] at P3
  clear hX0
  have HX1 := Lib.hid hX1
  clear hX1
  go_enter Try.func15, Try.ntmps15
  go_wp2_with fail
  rw [HX1.out]
  clear HX1
  obtain ⟨hgx, x0, x1, x2, x3⟩ := cellsN (P3.out.2.2 (w.heap.size, boxN ⟨a, root, a, p, t.list.length, c⟩) (by simp)).1
  simp only at x0 x1 x2 x3
  have k0 := cell_regrown x0
  have k1 := cell_regrown x1
  have k2 := cell_regrown x2
  have HR1 : Hid (∀ d os, Calls Try.prog 58 #[.pointer a] (grow (redrawn X0 d) os) fun e w'' => e = .returned (.int .i64 ((room : Int) - (zs.length : Int))) ∧ ∃ p : Regrown, w'' = grow (redrawn X0 p.d) p.os) := Lib.hid fun d os => Calls.regrown_of ((arroom_v (P3.out.below (below_regrown X0 d os)).1.1).mono fun _ _ ⟨e, n, h2⟩ => ⟨e, by rw [h2]; exact below_drewN (Below.refl _ _) n⟩)
  have HR2 : Hid (∀ d os, Calls Try.prog 60 #[.pointer a] (grow (redrawn X0 d) os) fun e w'' => e = .returned (.int .i64 (zs.length : Int)) ∧ ∃ p : Regrown, w'' = grow (redrawn X0 p.d) p.os) := Lib.hid fun d os => Calls.regrown_of ((arlen_v (P3.out.below (below_regrown X0 d os)).1.1).mono fun _ _ ⟨e, h2⟩ => ⟨e, by rw [← h2]; exact Below.refl _ _⟩)
  have HR3 : Hid (∀ d os, Calls Try.prog 22 #[.agg #[.pointer a, .int .i64 root]] (grow (redrawn X0 d) os) fun e w'' => e = .returned (.int .i64 (t.high : Int)) ∧ ∃ p : Regrown, w'' = grow (redrawn X0 p.d) p.os) := Lib.hid fun d os => Calls.regrown_of (pmhigh (P3.out.below (below_regrown X0 d os)).1.1 (t := t) (root := root) HT.out)
  refine wp_region_quiet_below (by kernel_rfl) (by kernel_rfl) ?_
  repeat (go_big_quiet_step (first | exact HR1.out _ _ | exact HR2.out _ _ | exact HR3.out _ _))
  refine wpQuiet_nil ?_
  intro _ hw'
  obtain ⟨⟨dq, osq⟩, hw''⟩ := hw'
  subst hw''
  have P4 := Lib.hid (P3.out.below (below_regrown X0 dq osq))
  obtain ⟨X1, hX1⟩ : ∃ X1, X1 = grow (redrawn X0 dq) osq := ⟨_, rfl⟩
  rw [← hX1] at P4
  rw [← hX1]
  clear hX1 P3 HR1 HR2 HR3 k0 k1 k2 hgx x0 x1 x2 x3
  obtain ⟨hgx, x0, x1, x2, x3⟩ := cellsN (P4.out.2.2 (w.heap.size, boxN ⟨a, root, a, p, t.list.length, c⟩) (by simp)).1
  obtain ⟨hgy, y0, y1, y2, y3⟩ := cellsD6 (P4.out.2.2 (w.heap.size + 1, boxD6 4 from_ key val) (by simp)).1
  simp only at x0 x1 x2 x3
  have hlE1 := HLE
  obtain ⟨hi, hhi⟩ : ∃ hi, hi = t.high := ⟨_, rfl⟩
  rw [← hhi] at hh
  try rw [← hhi]
  have HHI := Lib.hid hhi
  clear hhi
  have hle1 := hlE1.out.1
  have hle2 := hlE1.out.2

  have HX1s : Hid (w.heap.size + 2 < X1.heap.size) := Lib.hid (heap_lt (P4.out.2.2 (w.heap.size + 2, boxN On.zero) (by simp)).1)
  go_wp2_with fail
  refine (arnew_any val X1).mono ?_
  rintro e w2 ⟨rfl, hA2, hb2⟩
  have PA := Lib.hid (P4.out.below hb2)
  have HA2 := Lib.hid hA2
  have HB2 := Lib.hid hb2
  clear hA2 hb2 hgx x0 x1 x2 x3 hgy y0 y1 y2 y3
  obtain ⟨hgx, x0, x1, x2, x3⟩ := cellsN (PA.out.2.2 (w.heap.size, boxN ⟨a, root, a, p, t.list.length, c⟩) (by simp)).1
  obtain ⟨hgy, y0, y1, y2, y3⟩ := cellsD6 (PA.out.2.2 (w.heap.size + 1, boxD6 4 from_ key val) (by simp)).1
  simp only at x0 x1 x2 x3
  go_wp2_with fail
  refine (pmmove PA.out.1.1 HT.out hsz1 (ArV.of HA2.out)).mono ?_
  rintro e w3 ⟨root2, why, zs2, o2, rfl, hav, hmv, hfr, hM⟩
  obtain ⟨hbx, es, hrest, hes⟩ := move_blocks HB2.out hav hmv hfr
  have P5 : Hid (PS w0 w3 (.pointer a) o room zs (.slice none 0 0) [] (es ++ (w.heap.size + 2, boxN On.zero) :: (w.heap.size + 1, boxD6 4 from_ key val) :: (w.heap.size, boxN ⟨a, root, a, p, t.list.length, c⟩) :: bs)) := Lib.hid (P4.out.keepNews hbx hes)
  have HRest := Lib.hid hrest
  have HEs : Hid (∀ q ∈ es, X1.heap.size ≤ q.1) := Lib.hid fun q hq => (hes q hq).2
  have HLe2 := Lib.hid hav.le
  have HM := Lib.hid hM
  have HW3 : Hid (w.heap.size + 2 < w3.heap.size) := Lib.hid (heap_lt (P5.out.2.2 (w.heap.size + 2, boxN On.zero) (by simp)).1)
  have HTL : Hid (t.list.length = t.size) := Lib.hid t.list_len
  clear hav hmv hfr hM hbx hrest hes PA HA2 HB2 P4 hgx x0 x1 x2 x3 hgy y0 y1 y2 y3
  obtain ⟨hgx, x0, x1, x2, x3⟩ := cellsN (P5.out.2.2 (w.heap.size, boxN ⟨a, root, a, p, t.list.length, c⟩) (by simp)).1
  obtain ⟨hgy, y0, y1, y2, y3⟩ := cellsD6 (P5.out.2.2 (w.heap.size + 1, boxD6 4 from_ key val) (by simp)).1
  simp only at x0 x1 x2 x3
  rcases HM.out with ⟨rfl, hP⟩ | ⟨rfl, hzz, rfl, hZ⟩
  · have HP := Lib.hid hP
    clear hP HM
    have hd1 : decide ((t.list.length : Int) ≤ ((roomOf val : Nat) : Int)) = true := by
      rw [decide_eq_true_eq]
      obtain ⟨⟨new, he, hn⟩, _⟩ := HP.out
      have h1 := HLe2.out.1
      rw [he, List.nil_append] at h1
      have := HTL.out
      omega
    have hd2 : ((zs2.length : Int) == (t.list.length : Int)) = true := by
      rw [beq_iff_eq]
      obtain ⟨⟨new, he, hn⟩, _⟩ := HP.out
      rw [he, List.nil_append]
      have := HTL.out
      omega
    have hd3 : decide (t.list.length ≤ roomOf val) = true := by rw [decide_eq_true_eq] at hd1 ⊢; omega
    have hd4 : (zs2.length == t.list.length) = true := by rw [beq_iff_eq] at hd2 ⊢; omega
    go_wp2_with fail
    obtain ⟨wy, hwy⟩ : ∃ wy, wy = w3.alloc (.cells #[(.pointer (some ⟨X1.heap.size, 0, none⟩)), .int .i64 root2] 27) := ⟨_, rfl⟩
    have P6 : Hid (PS w0 wy (.pointer a) o room zs (.slice none 0 0) [] ((w3.heap.size, boxM (.pointer (some ⟨X1.heap.size, 0, none⟩)) root2) :: (es ++ (w.heap.size + 2, boxN On.zero) :: (w.heap.size + 1, boxD6 4 from_ key val) :: (w.heap.size, boxN ⟨a, root, a, p, t.list.length, c⟩) :: bs))) := Lib.hid (by rw [hwy]; exact P5.out.addAt (boxM (.pointer (some ⟨X1.heap.size, 0, none⟩)) root2) rfl)
    go_upto_region 24 with fail
    rw [← hwy]
    clear hwy hgx x0 x1 x2 x3 hgy y0 y1 y2 y3
    have HX : Hid (∀ X, Below wy.heap.size wy X → PS w0 X (.pointer a) o room zs (.slice none 0 0) [] ((w3.heap.size, boxM (.pointer (some ⟨X1.heap.size, 0, none⟩)) root2) :: (es ++ (w.heap.size + 2, boxN On.zero) :: (w.heap.size + 1, boxD6 4 from_ key val) :: (w.heap.size, boxN ⟨a, root, a, p, t.list.length, c⟩) :: bs))) := Lib.hid fun X hX => P6.out.below hX
    have HS : Hid (∀ X, Below wy.heap.size wy X → (fun X => (X.cell? ⟨w.heap.size, 0, none⟩ = some (.pointer a) ∧ X.cell? ⟨w.heap.size, 1, none⟩ = some (.int .i64 root) ∧ X.cell? ⟨w.heap.size, 2, none⟩ = some (.pointer a) ∧ X.cell? ⟨w.heap.size, 3, none⟩ = some (.slice p t.list.length c)) ∧ (X.cell? ⟨w.heap.size + 1, 2, none⟩ = some (.int .i64 key) ∧ X.cell? ⟨w.heap.size + 1, 3, none⟩ = some (.int .i64 val)) ∧ (X.cell? ⟨w3.heap.size, 0, none⟩ = some (.pointer (some ⟨X1.heap.size, 0, none⟩)) ∧ X.cell? ⟨w3.heap.size, 1, none⟩ = some (.int .i64 root2))) X) := Lib.hid fun X hX => ⟨(cellsN ((HX.out X hX).2.2 (w.heap.size, boxN ⟨a, root, a, p, t.list.length, c⟩) (by simp)).1).2, ⟨(cellsD6 ((HX.out X hX).2.2 (w.heap.size + 1, boxD6 4 from_ key val) (by simp)).1).2.2.2.1, (cellsD6 ((HX.out X hX).2.2 (w.heap.size + 1, boxD6 4 from_ key val) (by simp)).1).2.2.2.2⟩, (cellsM ((HX.out X hX).2.2 (w3.heap.size, boxM (.pointer (some ⟨X1.heap.size, 0, none⟩)) root2) (by simp)).1).2⟩
    have BB0 : Hid (Below wy.heap.size wy wy.drew) := Lib.hid (Below.refl _ _).drew
    have HAV : Hid (∀ X, Below wy.heap.size wy X → ArV X (.pointer (some ⟨X1.heap.size, 0, none⟩)) o2 (roomOf val) zs2) := Lib.hid fun X hX => HRest.out.2 X fun q hq => ((HX.out X hX).2.2 q (by simp [hq])).1
    have HRo : Hid (∀ X, Below wy.heap.size wy X → Calls Try.prog 40 #[.int .i64 val] X (IntB (roomOf val : Nat) X)) := Lib.hid fun X hX => (room_ref val X).mono fun _ _ ⟨e, h2⟩ => ⟨e, by rw [← h2]; exact Below.refl _ _⟩
    have HLe : Hid (∀ X, Below wy.heap.size wy X → Calls Try.prog 60 #[(.pointer (some ⟨X1.heap.size, 0, none⟩))] X (IntB (zs2.length : Int) X)) := Lib.hid fun X hX => (arlen_v (HAV.out X hX)).mono fun _ _ ⟨e, h2⟩ => ⟨e, by rw [← h2]; exact Below.refl _ _⟩
    have HNN : Hid (∀ q ∈ (w3.heap.size, boxM (.pointer (some ⟨X1.heap.size, 0, none⟩)) root2) :: (w.heap.size + 1, boxD6 4 from_ key val) :: (w.heap.size, boxN ⟨a, root, a, p, t.list.length, c⟩) :: (es ++ bs), q.1 ≠ w.heap.size + 2) := Lib.hid fun q hq e => by
      simp only [List.mem_cons, List.mem_append] at hq
      rcases hq with rfl | rfl | rfl | hq | hq
      · simp only at e; have := HW3.out; omega
      · simp only at e; omega
      · simp only at e; omega
      · have := HEs.out q hq; have := HX1s.out; omega
      · exact HN.out.1 q (by simp [hq]) e

    refine wp_region_held_drew (S := (fun X => (X.cell? ⟨w.heap.size, 0, none⟩ = some (.pointer a) ∧ X.cell? ⟨w.heap.size, 1, none⟩ = some (.int .i64 root) ∧ X.cell? ⟨w.heap.size, 2, none⟩ = some (.pointer a) ∧ X.cell? ⟨w.heap.size, 3, none⟩ = some (.slice p t.list.length c)) ∧ (X.cell? ⟨w.heap.size + 1, 2, none⟩ = some (.int .i64 key) ∧ X.cell? ⟨w.heap.size + 1, 3, none⟩ = some (.int .i64 val)) ∧ (X.cell? ⟨w3.heap.size, 0, none⟩ = some (.pointer (some ⟨X1.heap.size, 0, none⟩)) ∧ X.cell? ⟨w3.heap.size, 1, none⟩ = some (.int .i64 root2)))) (by as_aux_lemma => kernel_rfl) (HS.out _ BB0.out) (fun hHeld0 => ?_)
    refine wpAnyH_take (i := 0) (v := ?_) rfl (by as_aux_lemma => kernel_rfl) (by as_aux_lemma => kernel_rfl) (by as_aux_lemma => kernel_rfl) (fun _ _ _ h => h) (Or.inl ⟨by rfl, ?ymo1⟩) (by assumption) ?qmo1
    case ymo1 => (intro wz hSw; (try dsimp only at hSw); go_simp <;> with_reducible rfl)
    try simp only [Act.put, List.getElem_toArray, List.getElem_cons_zero, List.setIfInBounds_toArray, List.set_cons_zero, List.set_cons_succ]
    refine wpAnyH_take (i := 1) (v := ?_) rfl (by as_aux_lemma => kernel_rfl) (by as_aux_lemma => kernel_rfl) (by as_aux_lemma => kernel_rfl) (fun _ _ _ h => h) (Or.inl ⟨by rfl, ?ymo2⟩) (by assumption) ?qmo2
    case ymo2 => (intro wz hSw; (try dsimp only at hSw); go_simp <;> with_reducible rfl)
    try simp only [Act.put, List.getElem_toArray, List.getElem_cons_zero, List.getElem_cons_succ, List.setIfInBounds_toArray, List.set_cons_zero, List.set_cons_succ]
    refine wpAnyH_take (i := 2) (v := ?_) rfl (by as_aux_lemma => kernel_rfl) (by as_aux_lemma => kernel_rfl) (by as_aux_lemma => kernel_rfl) (fun _ _ _ h => h) (Or.inl ⟨by rfl, ?ymo3⟩) (by assumption) ?qmo3
    case ymo3 => (intro wz hSw; (try dsimp only at hSw); go_simp <;> with_reducible rfl)
    try simp only [Act.put, List.getElem_toArray, List.getElem_cons_zero, List.getElem_cons_succ, List.setIfInBounds_toArray, List.set_cons_zero, List.set_cons_succ]
    refine wpAnyH_take (i := 3) (v := ?_) rfl (by as_aux_lemma => kernel_rfl) (by as_aux_lemma => kernel_rfl) (by as_aux_lemma => kernel_rfl) (fun _ _ _ h => h) (Or.inl ⟨by rfl, ?ymo4⟩) (by assumption) ?qmo4
    case ymo4 => (intro wz hSw; (try dsimp only at hSw); go_simp <;> with_reducible rfl)
    try simp only [Act.put, List.getElem_toArray, List.getElem_cons_zero, List.getElem_cons_succ, List.setIfInBounds_toArray, List.set_cons_zero, List.set_cons_succ]
    refine wpAnyH_take (i := 4) (v := ?_) rfl (by as_aux_lemma => kernel_rfl) (by as_aux_lemma => kernel_rfl) (by as_aux_lemma => kernel_rfl) (fun _ _ _ h => h) (Or.inl ⟨by rfl, ?ymo5⟩) (by assumption) ?qmo5
    case ymo5 => (intro wz hSw; (try dsimp only at hSw); go_simp <;> with_reducible rfl)
    try simp only [Act.put, List.getElem_toArray, List.getElem_cons_zero, List.getElem_cons_succ, List.setIfInBounds_toArray, List.set_cons_zero, List.set_cons_succ]
    refine wpAnyH_take (i := 5) (v := ?_) rfl (by as_aux_lemma => kernel_rfl) (by as_aux_lemma => kernel_rfl) (by as_aux_lemma => kernel_rfl) (fun _ _ _ h => h) (Or.inl ⟨by rfl, ?ymo6⟩) (by assumption) ?qmo6
    case ymo6 => (intro wz hSw; (try dsimp only at hSw); go_simp <;> with_reducible rfl)
    try simp only [Act.put, List.getElem_toArray, List.getElem_cons_zero, List.getElem_cons_succ, List.setIfInBounds_toArray, List.set_cons_zero, List.set_cons_succ]
    refine wpAnyH_take (i := 6) (v := ?_) rfl (by as_aux_lemma => kernel_rfl) (by as_aux_lemma => kernel_rfl) (by as_aux_lemma => kernel_rfl) (fun _ _ _ h => h) (Or.inl ⟨by rfl, ?ymo7⟩) (by assumption) ?qmo7
    case ymo7 => (intro wz hSw; (try dsimp only at hSw); go_simp <;> with_reducible rfl)
    try simp only [Act.put, List.getElem_toArray, List.getElem_cons_zero, List.getElem_cons_succ, List.setIfInBounds_toArray, List.set_cons_zero, List.set_cons_succ]
    refine wpAnyH_take (i := 7) (v := ?_) rfl (by as_aux_lemma => kernel_rfl) (by as_aux_lemma => kernel_rfl) (by as_aux_lemma => kernel_rfl) (fun _ _ _ h => h) (Or.inl ⟨by rfl, ?ymo8⟩) (by assumption) ?qmo8
    case ymo8 => (intro wz hSw; (try dsimp only at hSw); go_simp <;> with_reducible rfl)
    try simp only [Act.put, List.getElem_toArray, List.getElem_cons_zero, List.getElem_cons_succ, List.setIfInBounds_toArray, List.set_cons_zero, List.set_cons_succ]
    refine wpAnyH_take (i := 8) (v := ?_) rfl (by as_aux_lemma => kernel_rfl) (by as_aux_lemma => kernel_rfl) (by as_aux_lemma => kernel_rfl) (fun _ _ _ h => h) (Or.inl ⟨by rfl, ?ymo9⟩) (by assumption) ?qmo9
    case ymo9 => (intro wz hSw; (try dsimp only at hSw); go_simp <;> with_reducible rfl)
    try simp only [Act.put, List.getElem_toArray, List.getElem_cons_zero, List.getElem_cons_succ, List.setIfInBounds_toArray, List.set_cons_zero, List.set_cons_succ]
    refine wpAnyH_take (i := 9) (v := ?_) rfl (by as_aux_lemma => kernel_rfl) (by as_aux_lemma => kernel_rfl) (by as_aux_lemma => kernel_rfl) (fun _ _ _ h => h) (Or.inl ⟨by rfl, ?ymo10⟩) (by assumption) ?qmo10
    case ymo10 => (intro wz hSw; (try dsimp only at hSw); go_simp <;> with_reducible rfl)
    try simp only [Act.put, List.getElem_toArray, List.getElem_cons_zero, List.getElem_cons_succ, List.setIfInBounds_toArray, List.set_cons_zero, List.set_cons_succ]
    refine wpAnyH_take (i := 11) (v := ?_) rfl (by as_aux_lemma => kernel_rfl) (by as_aux_lemma => kernel_rfl) (by as_aux_lemma => kernel_rfl) (fun _ _ _ h => h) (Or.inl ⟨by rfl, ?ymo11⟩) (by assumption) ?qmo11
    case ymo11 => (intro wz hSw; (try dsimp only at hSw); go_simp <;> with_reducible rfl)
    try simp only [Act.put, List.getElem_toArray, List.getElem_cons_zero, List.getElem_cons_succ, List.setIfInBounds_toArray, List.set_cons_zero, List.set_cons_succ]
    refine wpAnyH_take (i := 12) (v := ?_) rfl (by as_aux_lemma => kernel_rfl) (by as_aux_lemma => kernel_rfl) (by as_aux_lemma => kernel_rfl) (fun _ _ _ h => h) (Or.inl ⟨by rfl, ?ymo12⟩) (by assumption) ?qmo12
    case ymo12 => (intro wz hSw; (try dsimp only at hSw); go_simp <;> with_reducible rfl)
    try simp only [Act.put, List.getElem_toArray, List.getElem_cons_zero, List.getElem_cons_succ, List.setIfInBounds_toArray, List.set_cons_zero, List.set_cons_succ]
    refine wpAnyH_take (i := 13) (v := ?_) rfl (by as_aux_lemma => kernel_rfl) (by as_aux_lemma => kernel_rfl) (by as_aux_lemma => kernel_rfl) (fun _ _ _ h => h) (Or.inl ⟨by rfl, ?ymo13⟩) (by assumption) ?qmo13
    case ymo13 => (intro wz hSw; (try dsimp only at hSw); go_simp <;> with_reducible rfl)
    try simp only [Act.put, List.getElem_toArray, List.getElem_cons_zero, List.getElem_cons_succ, List.setIfInBounds_toArray, List.set_cons_zero, List.set_cons_succ]
    refine wpAnyH_ready (rs := [10]) (by as_aux_lemma => kernel_rfl) (by simp) ?_
    refine AllReadyH.cons rfl (fun K hK => ?_) AllReadyH.nil
    first | rw [if_pos (by rfl)] | skip
    go_simp
    refine (HRo.out _ BB0.out).mono ?_
    rintro e u14 ⟨rfl, hb⟩
    have CB14 := Lib.hid (Below.trans (show Below wy.heap.size wy _ from BB0.out) (hb.mono (show wy.heap.size ≤ _ from Below.size BB0.out)))
    clear hb
    refine hK.out _ _ ((HS.out _ CB14.out)) (fun hHeld14 => ?_)
    clear hK K
    try simp only [Act.put, List.getElem_toArray, List.getElem_cons_zero, List.getElem_cons_succ, List.setIfInBounds_toArray, List.set_cons_zero, List.set_cons_succ]
    refine wpAnyH_take (i := 14) (v := ?_) rfl (by as_aux_lemma => kernel_rfl) (by as_aux_lemma => kernel_rfl) (by as_aux_lemma => kernel_rfl) (fun _ _ _ h => h) (Or.inl ⟨by rfl, ?ymo15⟩) (by assumption) ?qmo15
    case ymo15 => (intro wz hSw; (try dsimp only at hSw); go_simp <;> with_reducible rfl)
    try simp only [Act.put, List.getElem_toArray, List.getElem_cons_zero, List.getElem_cons_succ, List.setIfInBounds_toArray, List.set_cons_zero, List.set_cons_succ]
    refine wpAnyH_take (i := 15) (v := ?_) rfl (by as_aux_lemma => kernel_rfl) (by as_aux_lemma => kernel_rfl) (by as_aux_lemma => kernel_rfl) (fun _ _ _ h => h) (Or.inl ⟨by rfl, ?ymo16⟩) (by assumption) ?qmo16
    case ymo16 => (intro wz hSw; (try dsimp only at hSw); go_simp <;> with_reducible rfl)
    try simp only [Act.put, List.getElem_toArray, List.getElem_cons_zero, List.getElem_cons_succ, List.setIfInBounds_toArray, List.set_cons_zero, List.set_cons_succ]
    refine wpAnyH_take (i := 16) (v := ?_) rfl (by as_aux_lemma => kernel_rfl) (by as_aux_lemma => kernel_rfl) (by as_aux_lemma => kernel_rfl) (fun _ _ _ h => h) (Or.inl ⟨by rfl, ?ymo17⟩) (by assumption) ?qmo17
    case ymo17 => (intro wz hSw; (try dsimp only at hSw); go_simp <;> with_reducible rfl)
    try simp only [Act.put, List.getElem_toArray, List.getElem_cons_zero, List.getElem_cons_succ, List.setIfInBounds_toArray, List.set_cons_zero, List.set_cons_succ]
    refine wpAnyH_take (i := 17) (v := ?_) rfl (by as_aux_lemma => kernel_rfl) (by as_aux_lemma => kernel_rfl) (by as_aux_lemma => kernel_rfl) (fun _ _ _ h => h) (Or.inl ⟨by rfl, ?ymo18⟩) (by assumption) ?qmo18
    case ymo18 => (intro wz hSw; (try dsimp only at hSw); go_simp <;> with_reducible rfl)
    try simp only [Act.put, List.getElem_toArray, List.getElem_cons_zero, List.getElem_cons_succ, List.setIfInBounds_toArray, List.set_cons_zero, List.set_cons_succ]
    refine wpAnyH_take (i := 19) (v := ?_) rfl (by as_aux_lemma => kernel_rfl) (by as_aux_lemma => kernel_rfl) (by as_aux_lemma => kernel_rfl) (fun _ _ _ h => h) (Or.inl ⟨by rfl, ?ymo19⟩) (by assumption) ?qmo19
    case ymo19 => (intro wz hSw; (try dsimp only at hSw); go_simp <;> with_reducible rfl)
    try simp only [Act.put, List.getElem_toArray, List.getElem_cons_zero, List.getElem_cons_succ, List.setIfInBounds_toArray, List.set_cons_zero, List.set_cons_succ]
    refine wpAnyH_take (i := 20) (v := ?_) rfl (by as_aux_lemma => kernel_rfl) (by as_aux_lemma => kernel_rfl) (by as_aux_lemma => kernel_rfl) (fun _ _ _ h => h) (Or.inl ⟨by rfl, ?ymo20⟩) (by assumption) ?qmo20
    case ymo20 => (intro wz hSw; (try dsimp only at hSw); go_simp <;> with_reducible rfl)
    try simp only [Act.put, List.getElem_toArray, List.getElem_cons_zero, List.getElem_cons_succ, List.setIfInBounds_toArray, List.set_cons_zero, List.set_cons_succ]
    refine wpAnyH_take (i := 21) (v := ?_) rfl (by as_aux_lemma => kernel_rfl) (by as_aux_lemma => kernel_rfl) (by as_aux_lemma => kernel_rfl) (fun _ _ _ h => h) (Or.inl ⟨by rfl, ?ymo21⟩) (by assumption) ?qmo21
    case ymo21 => (intro wz hSw; (try dsimp only at hSw); go_simp <;> with_reducible rfl)
    try simp only [Act.put, List.getElem_toArray, List.getElem_cons_zero, List.getElem_cons_succ, List.setIfInBounds_toArray, List.set_cons_zero, List.set_cons_succ]
    refine wpAnyH_ready (rs := [18]) (by as_aux_lemma => kernel_rfl) (by simp) ?_
    refine AllReadyH.cons rfl (fun K hK => ?_) AllReadyH.nil
    first | rw [if_pos (by rfl)] | skip
    go_simp
    refine (HLe.out _ CB14.out).mono ?_
    rintro e u22 ⟨rfl, hb⟩
    have CB22 := Lib.hid (Below.trans (show Below wy.heap.size wy _ from CB14.out) (hb.mono (show wy.heap.size ≤ _ from Below.size CB14.out)))
    clear hb
    refine hK.out _ _ ((HS.out _ CB22.out)) (fun hHeld22 => ?_)
    clear hK K
    try simp only [Act.put, List.getElem_toArray, List.getElem_cons_zero, List.getElem_cons_succ, List.setIfInBounds_toArray, List.set_cons_zero, List.set_cons_succ]
    refine wpAnyH_take (i := 22) (v := ?_) rfl (by as_aux_lemma => kernel_rfl) (by as_aux_lemma => kernel_rfl) (by as_aux_lemma => kernel_rfl) (fun _ _ _ h => h) (Or.inl ⟨by rfl, ?ymo23⟩) (by assumption) ?qmo23
    case ymo23 => (intro wz hSw; (try dsimp only at hSw); go_simp <;> with_reducible rfl)
    try simp only [Act.put, List.getElem_toArray, List.getElem_cons_zero, List.getElem_cons_succ, List.setIfInBounds_toArray, List.set_cons_zero, List.set_cons_succ]
    refine wpAnyH_take (i := 23) (v := ?_) rfl (by as_aux_lemma => kernel_rfl) (by as_aux_lemma => kernel_rfl) (by as_aux_lemma => kernel_rfl) (fun _ _ _ h => h) (Or.inl ⟨by rfl, ?ymo24⟩) (by assumption) ?qmo24
    case ymo24 => (intro wz hSw; (try dsimp only at hSw); go_simp <;> with_reducible rfl)
    try simp only [Act.put, List.getElem_toArray, List.getElem_cons_zero, List.getElem_cons_succ, List.setIfInBounds_toArray, List.set_cons_zero, List.set_cons_succ]
    refine wpAnyH_ready (rs := [24]) (by as_aux_lemma => kernel_rfl) (by simp) ?_
    refine AllReadyH.cons rfl (fun K hK => ?_) AllReadyH.nil
    rw [if_pos (by rfl)]
    refine wp_store_one (.tmp 4) (.tmp 174) rfl (w.heap.size + 2) ⟨some ⟨X1.heap.size, 0, none⟩, root2, some ⟨X1.heap.size, 0, none⟩, p, t.list.length, c⟩ On.zero rfl rfl ((HX.out _ CB22.out).2.2 (w.heap.size + 2, boxN On.zero) (by simp)).1 ?_
    intro v25 hst
    have HF := Lib.hid (((HX.out _ CB22.out).drop (bs' := (w.heap.size + 2, boxN On.zero) :: (w3.heap.size, boxM (.pointer (some ⟨X1.heap.size, 0, none⟩)) root2) :: (w.heap.size + 1, boxD6 4 from_ key val) :: (w.heap.size, boxN ⟨a, root, a, p, t.list.length, c⟩) :: (es ++ bs)) (by intro q hq; simp only [List.mem_cons, List.mem_append] at hq ⊢; rcases hq with h | h | h | h | h | h <;> simp [h])).store HNN.out HN.out.2 hst)
    clear hst
    refine hK.out _ _ (⟨(cellsN (HF.out.2.2 (w.heap.size, boxN ⟨a, root, a, p, t.list.length, c⟩) (by simp)).1).2, ⟨(cellsD6 (HF.out.2.2 (w.heap.size + 1, boxD6 4 from_ key val) (by simp)).1).2.2.2.1, (cellsD6 (HF.out.2.2 (w.heap.size + 1, boxD6 4 from_ key val) (by simp)).1).2.2.2.2⟩, (cellsM (HF.out.2.2 (w3.heap.size, boxM (.pointer (some ⟨X1.heap.size, 0, none⟩)) root2) (by simp)).1).2⟩) (fun hHeld25 => ?_)
    clear hK K
    try simp only [Act.put, List.getElem_toArray, List.getElem_cons_zero, List.getElem_cons_succ]
    refine wpAnyH_take (i := 25) (v := ?_) rfl (by as_aux_lemma => kernel_rfl) (by as_aux_lemma => kernel_rfl) (by as_aux_lemma => kernel_rfl) (fun _ _ _ h => h) (Or.inl ⟨by rfl, ?ymo26⟩) (by assumption) ?qmo26
    case ymo26 => (intro wz hSw; (try dsimp only at hSw); go_simp <;> with_reducible rfl)
    try simp only [Act.put, List.getElem_toArray, List.getElem_cons_zero, List.getElem_cons_succ, List.setIfInBounds_toArray, List.set_cons_zero, List.set_cons_succ]
    refine wpAnyH_done (by as_aux_lemma => kernel_rfl) ?_ _
    go_wp2_with fail
    exact bodyPost_ret (results_one _ _ (w.heap.size + 2) ⟨some ⟨X1.heap.size, 0, none⟩, root2, some ⟨X1.heap.size, 0, none⟩, p, t.list.length, c⟩ true rfl rfl (HF.out.2.2 (w.heap.size + 2, boxN ⟨some ⟨X1.heap.size, 0, none⟩, root2, some ⟨X1.heap.size, 0, none⟩, p, t.list.length, c⟩) (by simp)).1) rfl (.inr ⟨X1.heap.size, o2, zs2, root2, es, rfl, HRest.out, by obtain ⟨⟨new, he, hn⟩, _⟩ := HP.out; rw [he, List.nil_append, hn, mkT_size, HTL.out], HP.out.2, fun q hq => by have := HEs.out q hq; have := HX1s.out; omega, HF.out.drop (fun q hq => by simp only [List.mem_cons]; exact .inr (.inr (.inr (.inr hq))))⟩)
  · obtain rfl : [] = zs2 := hzz.symm
    have hd1 : decide (((roomOf val : Nat) : Int) < (t.list.length : Int)) = true := by
      rw [decide_eq_true_eq]
      have := HTL.out
      simp at hZ
      omega
    have hd3 : decide (roomOf val < t.list.length) = true := by rw [decide_eq_true_eq] at hd1 ⊢; omega
    clear HM hZ
    go_wp2_with fail
    obtain ⟨wy, hwy⟩ : ∃ wy, wy = w3.alloc (.cells #[(.pointer (some ⟨X1.heap.size, 0, none⟩)), .int .i64 0] 27) := ⟨_, rfl⟩
    have P6 : Hid (PS w0 wy (.pointer a) o room zs (.slice none 0 0) [] ((w3.heap.size, boxM (.pointer (some ⟨X1.heap.size, 0, none⟩)) 0) :: (es ++ (w.heap.size + 2, boxN On.zero) :: (w.heap.size + 1, boxD6 4 from_ key val) :: (w.heap.size, boxN ⟨a, root, a, p, t.list.length, c⟩) :: bs))) := Lib.hid (by rw [hwy]; exact P5.out.addAt (boxM (.pointer (some ⟨X1.heap.size, 0, none⟩)) 0) rfl)
    go_upto_region 23 with fail
    rw [← hwy]
    clear hwy hgx x0 x1 x2 x3 hgy y0 y1 y2 y3
    have HX : Hid (∀ X, Below wy.heap.size wy X → PS w0 X (.pointer a) o room zs (.slice none 0 0) [] ((w3.heap.size, boxM (.pointer (some ⟨X1.heap.size, 0, none⟩)) 0) :: (es ++ (w.heap.size + 2, boxN On.zero) :: (w.heap.size + 1, boxD6 4 from_ key val) :: (w.heap.size, boxN ⟨a, root, a, p, t.list.length, c⟩) :: bs))) := Lib.hid fun X hX => P6.out.below hX
    have HS : Hid (∀ X, Below wy.heap.size wy X → (fun X => (X.cell? ⟨w.heap.size, 0, none⟩ = some (.pointer a) ∧ X.cell? ⟨w.heap.size, 1, none⟩ = some (.int .i64 root) ∧ X.cell? ⟨w.heap.size, 2, none⟩ = some (.pointer a) ∧ X.cell? ⟨w.heap.size, 3, none⟩ = some (.slice p t.list.length c)) ∧ (X.cell? ⟨w.heap.size + 1, 2, none⟩ = some (.int .i64 key) ∧ X.cell? ⟨w.heap.size + 1, 3, none⟩ = some (.int .i64 val)) ∧ (X.cell? ⟨w3.heap.size, 0, none⟩ = some (.pointer (some ⟨X1.heap.size, 0, none⟩)) ∧ X.cell? ⟨w3.heap.size, 1, none⟩ = some (.int .i64 0))) X) := Lib.hid fun X hX => ⟨(cellsN ((HX.out X hX).2.2 (w.heap.size, boxN ⟨a, root, a, p, t.list.length, c⟩) (by simp)).1).2, ⟨(cellsD6 ((HX.out X hX).2.2 (w.heap.size + 1, boxD6 4 from_ key val) (by simp)).1).2.2.2.1, (cellsD6 ((HX.out X hX).2.2 (w.heap.size + 1, boxD6 4 from_ key val) (by simp)).1).2.2.2.2⟩, (cellsM ((HX.out X hX).2.2 (w3.heap.size, boxM (.pointer (some ⟨X1.heap.size, 0, none⟩)) 0) (by simp)).1).2⟩
    have BB0 : Hid (Below wy.heap.size wy wy.drew) := Lib.hid (Below.refl _ _).drew
    have HAV : Hid (∀ X, Below wy.heap.size wy X → ArV X (.pointer (some ⟨X1.heap.size, 0, none⟩)) o2 (roomOf val) []) := Lib.hid fun X hX => HRest.out.2 X fun q hq => ((HX.out X hX).2.2 q (by simp [hq])).1
    have HRo : Hid (∀ X, Below wy.heap.size wy X → Calls Try.prog 40 #[.int .i64 val] X (IntB (roomOf val : Nat) X)) := Lib.hid fun X hX => (room_ref val X).mono fun _ _ ⟨e, h2⟩ => ⟨e, by rw [← h2]; exact Below.refl _ _⟩
    have HLe : Hid (∀ X, Below wy.heap.size wy X → Calls Try.prog 60 #[(.pointer (some ⟨X1.heap.size, 0, none⟩))] X (IntB 0 X)) := Lib.hid fun X hX => (arlen_v (HAV.out X hX)).mono fun _ _ ⟨e, h2⟩ => ⟨e, by rw [← h2]; exact Below.refl _ _⟩
    have HNN : Hid (∀ q ∈ (w3.heap.size, boxM (.pointer (some ⟨X1.heap.size, 0, none⟩)) 0) :: (w.heap.size + 1, boxD6 4 from_ key val) :: (w.heap.size, boxN ⟨a, root, a, p, t.list.length, c⟩) :: (es ++ bs), q.1 ≠ w.heap.size + 2) := Lib.hid fun q hq e => by
      simp only [List.mem_cons, List.mem_append] at hq
      rcases hq with rfl | rfl | rfl | hq | hq
      · simp only at e; have := HW3.out; omega
      · simp only at e; omega
      · simp only at e; omega
      · have := HEs.out q hq; have := HX1s.out; omega
      · exact HN.out.1 q (by simp [hq]) e

    have HL0 : Hid (∀ X, Below wy.heap.size wy X → Calls Try.prog 23 #[.agg #[(.pointer (some ⟨X1.heap.size, 0, none⟩)), .int .i64 0]] X (IntB 0 X)) := Lib.hid fun X hX => pmlen (HAV.out X hX) (t := .nil) (root := 0) rfl
    refine wp_region_held_drew (S := (fun X => (X.cell? ⟨w.heap.size, 0, none⟩ = some (.pointer a) ∧ X.cell? ⟨w.heap.size, 1, none⟩ = some (.int .i64 root) ∧ X.cell? ⟨w.heap.size, 2, none⟩ = some (.pointer a) ∧ X.cell? ⟨w.heap.size, 3, none⟩ = some (.slice p t.list.length c)) ∧ (X.cell? ⟨w.heap.size + 1, 2, none⟩ = some (.int .i64 key) ∧ X.cell? ⟨w.heap.size + 1, 3, none⟩ = some (.int .i64 val)) ∧ (X.cell? ⟨w3.heap.size, 0, none⟩ = some (.pointer (some ⟨X1.heap.size, 0, none⟩)) ∧ X.cell? ⟨w3.heap.size, 1, none⟩ = some (.int .i64 0)))) (by as_aux_lemma => kernel_rfl) (HS.out _ BB0.out) (fun hHeld0 => ?_)
    refine wpAnyH_take (i := 0) (v := ?_) rfl (by as_aux_lemma => kernel_rfl) (by as_aux_lemma => kernel_rfl) (by as_aux_lemma => kernel_rfl) (fun _ _ _ h => h) (Or.inl ⟨by rfl, ?ymf1⟩) (by assumption) ?qmf1
    case ymf1 => (intro wz hSw; (try dsimp only at hSw); go_simp <;> with_reducible rfl)
    try simp only [Act.put, List.getElem_toArray, List.getElem_cons_zero, List.setIfInBounds_toArray, List.set_cons_zero, List.set_cons_succ]
    refine wpAnyH_take (i := 1) (v := ?_) rfl (by as_aux_lemma => kernel_rfl) (by as_aux_lemma => kernel_rfl) (by as_aux_lemma => kernel_rfl) (fun _ _ _ h => h) (Or.inl ⟨by rfl, ?ymf2⟩) (by assumption) ?qmf2
    case ymf2 => (intro wz hSw; (try dsimp only at hSw); go_simp <;> with_reducible rfl)
    try simp only [Act.put, List.getElem_toArray, List.getElem_cons_zero, List.getElem_cons_succ, List.setIfInBounds_toArray, List.set_cons_zero, List.set_cons_succ]
    refine wpAnyH_take (i := 2) (v := ?_) rfl (by as_aux_lemma => kernel_rfl) (by as_aux_lemma => kernel_rfl) (by as_aux_lemma => kernel_rfl) (fun _ _ _ h => h) (Or.inl ⟨by rfl, ?ymf3⟩) (by assumption) ?qmf3
    case ymf3 => (intro wz hSw; (try dsimp only at hSw); go_simp <;> with_reducible rfl)
    try simp only [Act.put, List.getElem_toArray, List.getElem_cons_zero, List.getElem_cons_succ, List.setIfInBounds_toArray, List.set_cons_zero, List.set_cons_succ]
    refine wpAnyH_take (i := 4) (v := ?_) rfl (by as_aux_lemma => kernel_rfl) (by as_aux_lemma => kernel_rfl) (by as_aux_lemma => kernel_rfl) (fun _ _ _ h => h) (Or.inl ⟨by rfl, ?ymf4⟩) (by assumption) ?qmf4
    case ymf4 => (intro wz hSw; (try dsimp only at hSw); go_simp <;> with_reducible rfl)
    try simp only [Act.put, List.getElem_toArray, List.getElem_cons_zero, List.getElem_cons_succ, List.setIfInBounds_toArray, List.set_cons_zero, List.set_cons_succ]
    refine wpAnyH_take (i := 5) (v := ?_) rfl (by as_aux_lemma => kernel_rfl) (by as_aux_lemma => kernel_rfl) (by as_aux_lemma => kernel_rfl) (fun _ _ _ h => h) (Or.inl ⟨by rfl, ?ymf5⟩) (by assumption) ?qmf5
    case ymf5 => (intro wz hSw; (try dsimp only at hSw); go_simp <;> with_reducible rfl)
    try simp only [Act.put, List.getElem_toArray, List.getElem_cons_zero, List.getElem_cons_succ, List.setIfInBounds_toArray, List.set_cons_zero, List.set_cons_succ]
    refine wpAnyH_take (i := 6) (v := ?_) rfl (by as_aux_lemma => kernel_rfl) (by as_aux_lemma => kernel_rfl) (by as_aux_lemma => kernel_rfl) (fun _ _ _ h => h) (Or.inl ⟨by rfl, ?ymf6⟩) (by assumption) ?qmf6
    case ymf6 => (intro wz hSw; (try dsimp only at hSw); go_simp <;> with_reducible rfl)
    try simp only [Act.put, List.getElem_toArray, List.getElem_cons_zero, List.getElem_cons_succ, List.setIfInBounds_toArray, List.set_cons_zero, List.set_cons_succ]
    refine wpAnyH_ready (rs := [3]) (by as_aux_lemma => kernel_rfl) (by simp) ?_
    refine AllReadyH.cons rfl (fun K hK => ?_) AllReadyH.nil
    first | rw [if_pos (by rfl)] | skip
    go_simp
    refine (HRo.out _ BB0.out).mono ?_
    rintro e u7 ⟨rfl, hb⟩
    have CB7 := Lib.hid (Below.trans (show Below wy.heap.size wy _ from BB0.out) (hb.mono (show wy.heap.size ≤ _ from Below.size BB0.out)))
    clear hb
    refine hK.out _ _ ((HS.out _ CB7.out)) (fun hHeld7 => ?_)
    clear hK K
    try simp only [Act.put, List.getElem_toArray, List.getElem_cons_zero, List.getElem_cons_succ, List.setIfInBounds_toArray, List.set_cons_zero, List.set_cons_succ]
    refine wpAnyH_take (i := 7) (v := ?_) rfl (by as_aux_lemma => kernel_rfl) (by as_aux_lemma => kernel_rfl) (by as_aux_lemma => kernel_rfl) (fun _ _ _ h => h) (Or.inl ⟨by rfl, ?ymf8⟩) (by assumption) ?qmf8
    case ymf8 => (intro wz hSw; (try dsimp only at hSw); go_simp <;> with_reducible rfl)
    try simp only [Act.put, List.getElem_toArray, List.getElem_cons_zero, List.getElem_cons_succ, List.setIfInBounds_toArray, List.set_cons_zero, List.set_cons_succ]
    refine wpAnyH_take (i := 8) (v := ?_) rfl (by as_aux_lemma => kernel_rfl) (by as_aux_lemma => kernel_rfl) (by as_aux_lemma => kernel_rfl) (fun _ _ _ h => h) (Or.inl ⟨by rfl, ?ymf9⟩) (by assumption) ?qmf9
    case ymf9 => (intro wz hSw; (try dsimp only at hSw); go_simp <;> with_reducible rfl)
    try simp only [Act.put, List.getElem_toArray, List.getElem_cons_zero, List.getElem_cons_succ, List.setIfInBounds_toArray, List.set_cons_zero, List.set_cons_succ]
    refine wpAnyH_take (i := 9) (v := ?_) rfl (by as_aux_lemma => kernel_rfl) (by as_aux_lemma => kernel_rfl) (by as_aux_lemma => kernel_rfl) (fun _ _ _ h => h) (Or.inl ⟨by rfl, ?ymf10⟩) (by assumption) ?qmf10
    case ymf10 => (intro wz hSw; (try dsimp only at hSw); go_simp <;> with_reducible rfl)
    try simp only [Act.put, List.getElem_toArray, List.getElem_cons_zero, List.getElem_cons_succ, List.setIfInBounds_toArray, List.set_cons_zero, List.set_cons_succ]
    refine wpAnyH_ready (rs := [10]) (by as_aux_lemma => kernel_rfl) (by simp) ?_
    refine AllReadyH.cons rfl (fun K hK => ?_) AllReadyH.nil
    first | rw [if_pos (by rfl)] | skip
    go_simp
    refine (HLe.out _ CB7.out).mono ?_
    rintro e u11 ⟨rfl, hb⟩
    have CB11 := Lib.hid (Below.trans (show Below wy.heap.size wy _ from CB7.out) (hb.mono (show wy.heap.size ≤ _ from Below.size CB7.out)))
    clear hb
    refine hK.out _ _ ((HS.out _ CB11.out)) (fun hHeld11 => ?_)
    clear hK K
    try simp only [Act.put, List.getElem_toArray, List.getElem_cons_zero, List.getElem_cons_succ, List.setIfInBounds_toArray, List.set_cons_zero, List.set_cons_succ]
    refine wpAnyH_take (i := 11) (v := ?_) rfl (by as_aux_lemma => kernel_rfl) (by as_aux_lemma => kernel_rfl) (by as_aux_lemma => kernel_rfl) (fun _ _ _ h => h) (Or.inl ⟨by rfl, ?ymf12⟩) (by assumption) ?qmf12
    case ymf12 => (intro wz hSw; (try dsimp only at hSw); go_simp <;> with_reducible rfl)
    try simp only [Act.put, List.getElem_toArray, List.getElem_cons_zero, List.getElem_cons_succ, List.setIfInBounds_toArray, List.set_cons_zero, List.set_cons_succ]
    refine wpAnyH_take (i := 12) (v := ?_) rfl (by as_aux_lemma => kernel_rfl) (by as_aux_lemma => kernel_rfl) (by as_aux_lemma => kernel_rfl) (fun _ _ _ h => h) (Or.inl ⟨by rfl, ?ymf13⟩) (by assumption) ?qmf13
    case ymf13 => (intro wz hSw; (try dsimp only at hSw); go_simp <;> with_reducible rfl)
    try simp only [Act.put, List.getElem_toArray, List.getElem_cons_zero, List.getElem_cons_succ, List.setIfInBounds_toArray, List.set_cons_zero, List.set_cons_succ]
    refine wpAnyH_take (i := 13) (v := ?_) rfl (by as_aux_lemma => kernel_rfl) (by as_aux_lemma => kernel_rfl) (by as_aux_lemma => kernel_rfl) (fun _ _ _ h => h) (Or.inl ⟨by rfl, ?ymf14⟩) (by assumption) ?qmf14
    case ymf14 => (intro wz hSw; (try dsimp only at hSw); go_simp <;> with_reducible rfl)
    try simp only [Act.put, List.getElem_toArray, List.getElem_cons_zero, List.getElem_cons_succ, List.setIfInBounds_toArray, List.set_cons_zero, List.set_cons_succ]
    refine wpAnyH_take (i := 14) (v := ?_) rfl (by as_aux_lemma => kernel_rfl) (by as_aux_lemma => kernel_rfl) (by as_aux_lemma => kernel_rfl) (fun _ _ _ h => h) (Or.inl ⟨by rfl, ?ymf15⟩) (by assumption) ?qmf15
    case ymf15 => (intro wz hSw; (try dsimp only at hSw); go_simp <;> with_reducible rfl)
    try simp only [Act.put, List.getElem_toArray, List.getElem_cons_zero, List.getElem_cons_succ, List.setIfInBounds_toArray, List.set_cons_zero, List.set_cons_succ]
    refine wpAnyH_ready (rs := [15]) (by as_aux_lemma => kernel_rfl) (by simp) ?_
    refine AllReadyH.cons rfl (fun K hK => ?_) AllReadyH.nil
    first | rw [if_pos (by rfl)] | skip
    go_simp
    refine (HL0.out _ CB11.out).mono ?_
    rintro e u16 ⟨rfl, hb⟩
    have CB16 := Lib.hid (Below.trans (show Below wy.heap.size wy _ from CB11.out) (hb.mono (show wy.heap.size ≤ _ from Below.size CB11.out)))
    clear hb
    refine hK.out _ _ ((HS.out _ CB16.out)) (fun hHeld16 => ?_)
    clear hK K
    try simp only [Act.put, List.getElem_toArray, List.getElem_cons_zero, List.getElem_cons_succ, List.setIfInBounds_toArray, List.set_cons_zero, List.set_cons_succ]
    refine wpAnyH_take (i := 16) (v := ?_) rfl (by as_aux_lemma => kernel_rfl) (by as_aux_lemma => kernel_rfl) (by as_aux_lemma => kernel_rfl) (fun _ _ _ h => h) (Or.inl ⟨by rfl, ?ymf17⟩) (by assumption) ?qmf17
    case ymf17 => (intro wz hSw; (try dsimp only at hSw); go_simp <;> with_reducible rfl)
    try simp only [Act.put, List.getElem_toArray, List.getElem_cons_zero, List.getElem_cons_succ, List.setIfInBounds_toArray, List.set_cons_zero, List.set_cons_succ]
    refine wpAnyH_take (i := 17) (v := ?_) rfl (by as_aux_lemma => kernel_rfl) (by as_aux_lemma => kernel_rfl) (by as_aux_lemma => kernel_rfl) (fun _ _ _ h => h) (Or.inl ⟨by rfl, ?ymf18⟩) (by assumption) ?qmf18
    case ymf18 => (intro wz hSw; (try dsimp only at hSw); go_simp <;> with_reducible rfl)
    try simp only [Act.put, List.getElem_toArray, List.getElem_cons_zero, List.getElem_cons_succ, List.setIfInBounds_toArray, List.set_cons_zero, List.set_cons_succ]
    refine wpAnyH_ready (rs := [18]) (by as_aux_lemma => kernel_rfl) (by simp) ?_
    refine AllReadyH.cons rfl (fun K hK => ?_) AllReadyH.nil
    rw [if_pos (by rfl)]
    refine wp_store_one (.tmp 4) (.tmp 152) rfl (w.heap.size + 2) ⟨a, root, a, p, t.list.length, c⟩ On.zero rfl rfl ((HX.out _ CB16.out).2.2 (w.heap.size + 2, boxN On.zero) (by simp)).1 ?_
    intro v19 hst
    have HF := Lib.hid (((HX.out _ CB16.out).drop (bs' := (w.heap.size + 2, boxN On.zero) :: (w3.heap.size, boxM (.pointer (some ⟨X1.heap.size, 0, none⟩)) 0) :: (w.heap.size + 1, boxD6 4 from_ key val) :: (w.heap.size, boxN ⟨a, root, a, p, t.list.length, c⟩) :: (es ++ bs)) (by intro q hq; simp only [List.mem_cons, List.mem_append] at hq ⊢; rcases hq with h | h | h | h | h | h <;> simp [h])).store HNN.out HN.out.2 hst)
    clear hst
    refine hK.out _ _ (⟨(cellsN (HF.out.2.2 (w.heap.size, boxN ⟨a, root, a, p, t.list.length, c⟩) (by simp)).1).2, ⟨(cellsD6 (HF.out.2.2 (w.heap.size + 1, boxD6 4 from_ key val) (by simp)).1).2.2.2.1, (cellsD6 (HF.out.2.2 (w.heap.size + 1, boxD6 4 from_ key val) (by simp)).1).2.2.2.2⟩, (cellsM (HF.out.2.2 (w3.heap.size, boxM (.pointer (some ⟨X1.heap.size, 0, none⟩)) 0) (by simp)).1).2⟩) (fun hHeld19 => ?_)
    clear hK K
    try simp only [Act.put, List.getElem_toArray, List.getElem_cons_zero, List.getElem_cons_succ]
    refine wpAnyH_take (i := 19) (v := ?_) rfl (by as_aux_lemma => kernel_rfl) (by as_aux_lemma => kernel_rfl) (by as_aux_lemma => kernel_rfl) (fun _ _ _ h => h) (Or.inl ⟨by rfl, ?ymf20⟩) (by assumption) ?qmf20
    case ymf20 => (intro wz hSw; (try dsimp only at hSw); go_simp <;> with_reducible rfl)
    try simp only [Act.put, List.getElem_toArray, List.getElem_cons_zero, List.getElem_cons_succ, List.setIfInBounds_toArray, List.set_cons_zero, List.set_cons_succ]
    refine wpAnyH_done (by as_aux_lemma => kernel_rfl) ?_ _
    go_wp2_with fail
    exact bodyPost_ret (results_one _ _ (w.heap.size + 2) ⟨a, root, a, p, t.list.length, c⟩ true rfl rfl (HF.out.2.2 (w.heap.size + 2, boxN ⟨a, root, a, p, t.list.length, c⟩) (by simp)).1) rfl (.inl ⟨rfl, HF.out.drop (fun q hq => by simp [hq])⟩)
end Go.Proofs.Ytpmimngngehmlaa.F
