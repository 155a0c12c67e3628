/-
  SeqPlays: step's contract, a deed of kind 6. Not a statement of the seat.
-/
import Derived.Test.YtbgepeokadmemaaSqStep
import Derived.Test.YtbgepeokadmemaaHead2
import Derived.Test.YtbgepeokadmemaaPsMov
import Derived.Test.YtbgepeokadmemaaHead5
namespace Go.Proofs.Ytbgepeokadmemaa.Q
open Go.ChangeShapes Go.WideShapes Go.ChangeAt Go.RowKit Go.Sort Base F BigFrame
theorem li_nl {ls : List (Nat × Obj)} {v : Value} {l : List Int} {w : World} {b : Nat} (h : LI ls v l) (hw : ∀ q ∈ ls, w.heap[q.1]? = some q.2) (hb : ∀ q ∈ ls, q.1 < b) : NL w v l (VF (.pointer (some ⟨b, 0, none⟩)) none) := by
  rcases h with ⟨rfl, p, c, h, _⟩ | ⟨q, hq, cur, off, c, hq2, h, hc, hk⟩
  · exact .inl ⟨rfl, p, c, h⟩
  · refine .inr ⟨q.1, off, c, h, hc, heap_lt (hw q hq), fun k => ?_, fun k hk' => ?_⟩
    · have := hb q hq
      rcases k with k | k
      · injection k with k; injection k with k; injection k with k; omega
      · cases k
    · have h1 := hw q hq
      rw [hq2] at h1
      simp [World.cell?, h1, hk k hk']
set_option maxHeartbeats 16000000 in
set_option maxRecDepth 100000 in
theorem sqstep6 {w0 w : World} {a : Option Addr} {o : Option Nat} {room : Nat} {zs : List Cel} {bs ls : List (Nat × Obj)} {t : Tre} {root : Int} {p : Option Addr} {c n : Nat} (from_ i val : Int) (h : PS w0 w (.pointer a) o room zs (.slice none 0 0) [] bs) (ht : NS zs t root n) (hn : n ≤ 1000) (hbd : Bd7 t.vals) (hlv : LI ls (.slice p t.vals.length c) t.vals) (hsub : ∀ q ∈ ls, q ∈ bs) :
    Calls Try.prog 7 #[.agg #[.pointer a, .int .i64 root, .pointer a, .slice p t.vals.length c], .agg #[.int .i64 6, .int .i64 from_, .int .i64 i, .int .i64 val]] w (SqAll w0 w a room zs bs ls (n + 1)) := by
  have P3 := Lib.hid (((h.addAt (boxQ ⟨a, root, a, p, t.vals.length, c⟩) rfl).addAt (g := w.heap.size + 1) (boxD7 6 from_ i val) (by simp)).addAt (g := w.heap.size + 2) (boxQ Qn.zero) (by simp))
  have HT := Lib.hid ht
  have hh : t.high ≤ 70000 := by have := t.high_le_size; have := ht.2.2.2; omega
  have HLE := Lib.hid h.1.1.le
  have HLV := Lib.hid hlv
  have HSUB := Lib.hid hsub
  have HBD := Lib.hid hbd
  have HN : Hid ((∀ q ∈ (w.heap.size + 1, boxD7 6 from_ i val) :: (w.heap.size, boxQ ⟨a, root, a, p, t.vals.length, c⟩) :: bs, q.1 < w.heap.size + 2) ∧ w0.heap.size ≤ w.heap.size + 2 ∧ 0 = 0) := Lib.hid ⟨fun q hq => by
    simp only [List.mem_cons] at hq
    rcases hq with rfl | rfl | hq
    · simp only; omega
    · simp only; omega
    · have := heap_lt (h.2.2 q hq).1; omega, by have := h.1.2.1.size; omega, rfl⟩
  clear h ht hlv hsub hbd
  obtain ⟨X0, hX0⟩ : ∃ X0, X0 = ((w.alloc (boxQ ⟨a, root, a, p, t.vals.length, c⟩)).alloc (boxD7 6 from_ i val)).alloc (boxQ Qn.zero) := ⟨_, rfl⟩
  have hX1 : ((w.alloc (.cells #[.pointer a, .int .i64 root, .pointer a, .slice p t.vals.length c] 31)).alloc (.cells #[.int .i64 6, .int .i64 from_, .int .i64 i, .int .i64 val] 34)).alloc (.cells #[.pointer none, .int .i64 0, .pointer none, .slice none 0 0] 31) = X0 := hX0.symm
  rw [← hX0] at P3
  clear hX0
  have HX1 := Lib.hid hX1
  clear hX1
  go_enter Try.func7, Try.ntmps7
  go_wp2_with fail
  rw [HX1.out]
  clear HX1
  refine (arlen_v P3.out.1.1).mono ?_
  rintro e w1 ⟨rfl, rfl⟩
  obtain ⟨hgx, x0, x1, x2, x3⟩ := cellsQ (P3.out.2.2 (w.heap.size, boxQ ⟨a, root, a, p, t.vals.length, c⟩) (by simp)).1
  simp only at x0 x1 x2 x3
  go_wp2_with fail
  have k0 := cell_regrown x0
  have k1 := cell_regrown x1
  have k2 := cell_regrown x2
  have HR1 : Hid (∀ d os, Calls Try.prog 21 #[.pointer a] (grow (redrawn X0 d) os) fun e w'' => e = .returned (.int .i64 ((room : Int) - (zs.length : Int))) ∧ ∃ p : Regrown, w'' = grow (redrawn X0 p.d) p.os) := Lib.hid fun d os => Calls.regrown_of ((arroom_v (P3.out.below (below_regrown X0 d os)).1.1).mono fun _ _ ⟨e, n, h2⟩ => ⟨e, by rw [h2]; exact below_drewN (Below.refl _ _) n⟩)
  have HR3 : Hid (∀ d os, Calls Try.prog 19 #[.agg #[.pointer a, .int .i64 root]] (grow (redrawn X0 d) os) fun e w'' => e = .returned (.int .i64 (t.high : Int)) ∧ ∃ p : Regrown, w'' = grow (redrawn X0 p.d) p.os) := Lib.hid fun d os => Calls.regrown_of (pshigh (P3.out.below (below_regrown X0 d os)).1.1 (t := t) (root := root) HT.out.1)
  refine wp_region_quiet_below (by kernel_rfl) (by kernel_rfl) ?_
  repeat (go_big_quiet_step (first | exact HR1.out _ _ | exact HR3.out _ _))
  refine wpQuiet_nil ?_
  intro _ hw'
  obtain ⟨⟨dq, osq⟩, hw''⟩ := hw'
  subst hw''
  have P4 := Lib.hid (P3.out.below (below_regrown X0 dq osq))
  obtain ⟨X1, hX1⟩ : ∃ X1, X1 = grow (redrawn X0 dq) osq := ⟨_, rfl⟩
  have HXS : Hid (w.heap.size + 2 < X1.heap.size) := Lib.hid (by rw [hX1]; exact heap_lt (P4.out.2.2 (w.heap.size + 2, boxQ Qn.zero) (by simp)).1)
  rw [← hX1] at P4
  rw [← hX1]
  clear hX1 P3 HR1 HR3 k0 k1 k2 hgx x0 x1 x2 x3
  obtain ⟨hgx, x0, x1, x2, x3⟩ := cellsQ (P4.out.2.2 (w.heap.size, boxQ ⟨a, root, a, p, t.vals.length, c⟩) (by simp)).1
  obtain ⟨hgy, y0, y1, y2, y3⟩ := cellsD7 (P4.out.2.2 (w.heap.size + 1, boxD7 6 from_ i val) (by simp)).1
  simp only at x0 x1 x2 x3
  have hle1 := HLE.out.1
  have hle2 := HLE.out.2
  have HTL : Hid (t.vals.length = t.size) := Lib.hid (Tre.vals_len t)
  have HSL : Hid (∀ X, PS w0 X (.pointer a) o room zs (.slice none 0 0) [] ((w.heap.size + 2, boxQ Qn.zero) :: (w.heap.size + 1, boxD7 6 from_ i val) :: (w.heap.size, boxQ ⟨a, root, a, p, t.vals.length, c⟩) :: bs) → Or.SL X (.slice p t.vals.length c) t.vals) := Lib.hid fun X hX => LI.sl (HLV.out.mono (bs' := (w.heap.size + 2, boxQ Qn.zero) :: (w.heap.size + 1, boxD7 6 from_ i val) :: (w.heap.size, boxQ ⟨a, root, a, p, t.vals.length, c⟩) :: bs) (fun q hq => by simp only [List.mem_cons]; exact .inr (.inr (.inr (HSUB.out q hq))))) (fun q hq => (hX.2.2 q hq).1) (by rw [HTL.out]; have := HT.out.2.2.2; omega)
  go_wp2_with fail
  refine (Or.rthere_any i _ (HSL.out _ P4.out)).mono ?_
  rintro e w2 ⟨rfl, rfl⟩
  generalize decide (0 ≤ i ∧ i < (t.vals.length : Int)) = tb

  have HXB : Hid (some (⟨X1.heap.size, 0, none⟩ : Addr) = some ⟨X1.heap.size, 0, none⟩) := Lib.hid rfl
  go_wp2_with fail
  refine (arnew_any val X1).mono ?_
  rintro e w2 ⟨rfl, hA2, hb2⟩
  have PA := Lib.hid (P4.out.below hb2)
  have HA2 := Lib.hid hA2
  have HB2 := Lib.hid hb2
  clear hA2 hb2 hgx x0 x1 x2 x3 hgy y0 y1 y2 y3 HXB
  obtain ⟨hgx, x0, x1, x2, x3⟩ := cellsQ (PA.out.2.2 (w.heap.size, boxQ ⟨a, root, a, p, t.vals.length, c⟩) (by simp)).1
  obtain ⟨hgy, y0, y1, y2, y3⟩ := cellsD7 (PA.out.2.2 (w.heap.size + 1, boxD7 6 from_ i val) (by simp)).1
  simp only at x0 x1 x2 x3
  go_wp2_with fail
  refine (psmove PA.out.1.1 (t := t) (root := root) HT.out.1 (by have := HT.out.2.2.2; omega) (ArV.of HA2.out) HBD.out).mono ?_
  rintro e w3 ⟨rootM, whyM, zsM, oM, rfl, hav, hmv, hfr, hM⟩
  obtain ⟨hbx, esM, hrest, hes⟩ := move_blocks HB2.out hav hmv hfr
  have P5 : Hid (PS w0 w3 (.pointer a) o room zs (.slice none 0 0) [] (esM ++ ((w.heap.size + 2, boxQ Qn.zero) :: (w.heap.size + 1, boxD7 6 from_ i val) :: (w.heap.size, boxQ ⟨a, root, a, p, t.vals.length, c⟩) :: bs))) := Lib.hid (P4.out.keepNews hbx hes)
  have HRestM := Lib.hid hrest
  have HEsM : Hid (∀ q ∈ esM, w.heap.size + 2 < q.1) := Lib.hid fun q hq => by have := (hes q hq).2; have := HXS.out; omega
  have HLeM := Lib.hid hav.le
  have HMM : Hid ((whyM = 0 ∧ zsM.length = t.vals.length ∧ Tr zsM (mkN t.vals) rootM) ∨ (whyM = 2 ∧ zsM = [] ∧ rootM = 0 ∧ roomOf val < t.vals.length)) := Lib.hid (by
    rw [HTL.out]
    rcases hM with ⟨h1, ⟨new, he, hn⟩, h2⟩ | ⟨h1, h2, h3, h4⟩
    · exact .inl ⟨h1, by rw [he, List.nil_append, hn], h2⟩
    · exact .inr ⟨h1, h2, h3, by simpa using h4⟩)
  have HW3 : Hid (w.heap.size + 2 < w3.heap.size) := Lib.hid (heap_lt (P5.out.2.2 (w.heap.size + 2, boxQ Qn.zero) (by simp)).1)
  clear hav hmv hfr hM hbx hrest hes PA HA2 HB2 P4 hgx x0 x1 x2 x3 hgy y0 y1 y2 y3
  obtain ⟨hgx, x0, x1, x2, x3⟩ := cellsQ (P5.out.2.2 (w.heap.size, boxQ ⟨a, root, a, p, t.vals.length, c⟩) (by simp)).1
  obtain ⟨hgy, y0, y1, y2, y3⟩ := cellsD7 (P5.out.2.2 (w.heap.size + 1, boxD7 6 from_ i val) (by simp)).1
  simp only at x0 x1 x2 x3
  obtain ⟨bM, hbM⟩ : ∃ b : Option Addr, b = some ⟨X1.heap.size, 0, none⟩ := ⟨_, rfl⟩
  obtain ⟨gs, hgs⟩ : ∃ g, g = w3.heap.size := ⟨_, rfl⟩
  have HGS : Hid (w.heap.size + 2 < gs) := Lib.hid (by have := HW3.out; omega)
  obtain ⟨X2, hX2⟩ : ∃ X2, X2 = w3.alloc (boxS (.pointer bM) rootM) := ⟨_, rfl⟩
  have PB : Hid (PS w0 X2 (.pointer a) o room zs (.slice none 0 0) [] ((gs, boxS (.pointer bM) rootM) :: ((w.heap.size + 2, boxQ Qn.zero) :: (w.heap.size + 1, boxD7 6 from_ i val) :: (w.heap.size, boxQ ⟨a, root, a, p, t.vals.length, c⟩) :: bs))) := Lib.hid (by rw [hX2]; exact (P5.out.addAt (boxS (.pointer bM) rootM) hgs).drop (fun q hq => by simp only [List.mem_cons, List.mem_append] at hq ⊢; rcases hq with h | h | h | h | h <;> simp [h]))
  have HX2s : Hid (w.heap.size + 2 < X2.heap.size ∧ gs < X2.heap.size) := Lib.hid ⟨heap_lt (PB.out.2.2 (w.heap.size + 2, boxQ Qn.zero) (by simp)).1, heap_lt (PB.out.2.2 (gs, boxS (.pointer bM) rootM) (by simp)).1⟩
  unfold boxS at hX2
  clear HRestM HEsM HLeM HMM P5
  go_wp2_with fail
  rw [← hbM, ← hX2, ← hgs]
  clear hbM hX2 hgs hgx x0 x1 x2 x3 hgy y0 y1 y2 y3
  refine (arnew_any val X2).mono ?_
  rintro e w4 ⟨rfl, hA2, hb2⟩
  have PC := Lib.hid (PB.out.below hb2)
  have HA2 := Lib.hid hA2
  have HB2 := Lib.hid hb2
  clear hA2 hb2
  obtain ⟨hgx, x0, x1, x2, x3⟩ := cellsQ (PC.out.2.2 (w.heap.size, boxQ ⟨a, root, a, p, t.vals.length, c⟩) (by simp)).1
  obtain ⟨hgy, y0, y1, y2, y3⟩ := cellsD7 (PC.out.2.2 (w.heap.size + 1, boxD7 6 from_ i val) (by simp)).1
  simp only at x0 x1 x2 x3
  go_wp2_with fail
  refine (psof (l := t.vals) (ArV.of HA2.out) (li_nl HLV.out (fun q hq => (PC.out.2.2 q (by simp only [List.mem_cons]; exact .inr (.inr (.inr (.inr (HSUB.out q hq)))))).1) (fun q hq => by have h1 := HN.out.1 q (by simp only [List.mem_cons]; exact .inr (.inr (HSUB.out q hq))); have := HX2s.out; omega)) (by rw [HTL.out]; have := HT.out.2.2.2; omega) HBD.out).mono ?_
  rintro e w5 ⟨root2, why, zs2, o2, rfl, hav, hmv, hfr, hM⟩
  obtain ⟨hbx, es, hrest, hes⟩ := move_blocks HB2.out hav hmv hfr
  have P7 : Hid (PS w0 w5 (.pointer a) o room zs (.slice none 0 0) [] (es ++ ((gs, boxS (.pointer bM) rootM) :: ((w.heap.size + 2, boxQ Qn.zero) :: (w.heap.size + 1, boxD7 6 from_ i val) :: (w.heap.size, boxQ ⟨a, root, a, p, t.vals.length, c⟩) :: bs)))) := Lib.hid (PB.out.keepNews hbx hes)
  have HRest := Lib.hid hrest
  have HEs : Hid (∀ q ∈ es, w.heap.size + 2 < q.1 ∧ gs < q.1) := Lib.hid fun q hq => by have := (hes q hq).2; have := HX2s.out; omega
  have HLe2 := Lib.hid hav.le
  have HM : Hid ((why = 0 ∧ zs2.length = t.vals.length ∧ Tr zs2 (mkN t.vals) root2) ∨ (why = 2 ∧ zs2 = [] ∧ root2 = 0 ∧ roomOf val < t.vals.length)) := Lib.hid (by
    rcases hM with ⟨h1, ⟨new, he, hn⟩, h2⟩ | ⟨h1, h2, h3, h4⟩
    · exact .inl ⟨h1, by rw [he, List.nil_append, hn], h2⟩
    · exact .inr ⟨h1, h2, h3, by simpa using h4⟩)
  clear hav hmv hfr hM hbx hrest hes HA2 HB2 PB PC hgx x0 x1 x2 x3 hgy y0 y1 y2 y3
  have HDJ : Hid ((∀ q ∈ (w.heap.size + 2, boxQ Qn.zero) :: (w.heap.size + 1, boxD7 6 from_ i val) :: (w.heap.size, boxQ ⟨a, root, a, p, t.vals.length, c⟩) :: (es ++ bs), q.1 ≠ gs) ∧ w0.heap.size ≤ gs) := Lib.hid ⟨fun q hq e => by
    have hN1 := HN.out.1
    have := HGS.out
    simp only [List.mem_cons, List.mem_append] at hq
    rcases hq with rfl | rfl | rfl | hq | hq
    · simp only at e; omega
    · simp only at e; omega
    · simp only at e; omega
    · have := HEs.out q hq; omega
    · have := hN1 q (by simp [hq]); omega, by have := HGS.out; have := HN.out.2.1; omega⟩
  obtain ⟨hgx, x0, x1, x2, x3⟩ := cellsQ (P7.out.2.2 (w.heap.size, boxQ ⟨a, root, a, p, t.vals.length, c⟩) (by simp)).1
  obtain ⟨hgy, y0, y1, y2, y3⟩ := cellsD7 (P7.out.2.2 (w.heap.size + 1, boxD7 6 from_ i val) (by simp)).1
  simp only at x0 x1 x2 x3
  rcases HM.out with ⟨rfl, hz, htr⟩ | ⟨rfl, rfl, rfl, hz⟩
  · have HTr := Lib.hid htr
    clear htr HM
    have hd1 : decide ((t.vals.length : Int) ≤ ((roomOf val : Nat) : Int)) = true := by rw [decide_eq_true_eq]; have := HLe2.out.1; omega
    have hd2 : ((zs2.length : Int) == (t.vals.length : Int)) = true := by rw [beq_iff_eq]; omega
    have hd3 : decide (t.vals.length ≤ roomOf val) = true := by rw [decide_eq_true_eq] at hd1 ⊢; omega
    have hd4 : (zs2.length == t.vals.length) = true := by rw [beq_iff_eq] at hd2 ⊢; omega
    go_wp2_with (refine wpList_store_seq rfl (.tmp 17) (.tmp 152) rfl gs (some ⟨X2.heap.size, 0, none⟩) bM root2 rootM rfl rfl (P7.out.2.2 (gs, boxS (.pointer bM) rootM) (by simp)).1 ?_; intro wy hst; have HST := Lib.hid hst; clear hst; have P6 : Hid (PS w0 wy (.pointer a) o room zs (.slice none 0 0) [] ((gs, boxS (.pointer (some ⟨X2.heap.size, 0, none⟩)) root2) :: (es ++ ((w.heap.size + 2, boxQ Qn.zero) :: (w.heap.size + 1, boxD7 6 from_ i val) :: (w.heap.size, boxQ ⟨a, root, a, p, t.vals.length, c⟩) :: bs)))) := Lib.hid (((P7.out.drop (bs' := (gs, boxS (.pointer bM) rootM) :: (w.heap.size + 2, boxQ Qn.zero) :: (w.heap.size + 1, boxD7 6 from_ i val) :: (w.heap.size, boxQ ⟨a, root, a, p, t.vals.length, c⟩) :: (es ++ bs)) (by intro q hq; simp only [List.mem_cons, List.mem_append] at hq ⊢; rcases hq with h | h | h | h | h | h <;> simp [h])).store HDJ.out.1 HDJ.out.2 HST.out).drop (by intro q hq; simp only [List.mem_cons, List.mem_append] at hq ⊢; rcases hq with h | h | h | h | h | h <;> simp [h])); clear hgx x0 x1 x2 x3 hgy y0 y1 y2 y3; obtain ⟨hgx, x0, x1, x2, x3⟩ := cellsQ (P6.out.2.2 (w.heap.size, boxQ ⟨a, root, a, p, t.vals.length, c⟩) (by simp)).1; obtain ⟨hgy, y0, y1, y2, y3⟩ := cellsD7 (P6.out.2.2 (w.heap.size + 1, boxD7 6 from_ i val) (by simp)).1; simp only at x0 x1 x2 x3)
    clear hgx x0 x1 x2 x3 hgy y0 y1 y2 y3
    have HX : Hid (∀ X, Below wy.heap.size wy X → PS w0 X (.pointer a) o room zs (.slice none 0 0) [] ((gs, boxS (.pointer (some ⟨X2.heap.size, 0, none⟩)) root2) :: (es ++ ((w.heap.size + 2, boxQ Qn.zero) :: (w.heap.size + 1, boxD7 6 from_ i val) :: (w.heap.size, boxQ ⟨a, root, a, p, t.vals.length, c⟩) :: bs)))) := Lib.hid fun X hX => P6.out.below hX
    have HS : Hid (∀ X, Below wy.heap.size wy X → (fun X => (X.cell? ⟨w.heap.size, 0, none⟩ = some (.pointer a) ∧ X.cell? ⟨w.heap.size, 1, none⟩ = some (.int .i64 root) ∧ X.cell? ⟨w.heap.size, 2, none⟩ = some (.pointer a) ∧ X.cell? ⟨w.heap.size, 3, none⟩ = some (.slice p t.vals.length c)) ∧ X.cell? ⟨w.heap.size + 1, 3, none⟩ = some (.int .i64 val) ∧ (X.cell? ⟨gs, 0, none⟩ = some (.pointer (some ⟨X2.heap.size, 0, none⟩)) ∧ X.cell? ⟨gs, 1, none⟩ = some (.int .i64 root2))) X) := Lib.hid fun X hX => ⟨(cellsQ ((HX.out X hX).2.2 (w.heap.size, boxQ ⟨a, root, a, p, t.vals.length, c⟩) (by simp)).1).2, (cellsD7 ((HX.out X hX).2.2 (w.heap.size + 1, boxD7 6 from_ i val) (by simp)).1).2.2.2.2, (cellsS ((HX.out X hX).2.2 (gs, boxS (.pointer (some ⟨X2.heap.size, 0, none⟩)) root2) (by simp)).1).2⟩
    have BB0 : Hid (Below wy.heap.size wy wy.drew) := Lib.hid (Below.refl _ _).drew
    have HAV : Hid (∀ X, Below wy.heap.size wy X → ArV X (.pointer (some ⟨X2.heap.size, 0, none⟩)) o2 (roomOf val) zs2) := Lib.hid fun X hX => HRest.out.2 X fun q hq => ((HX.out X hX).2.2 q (by simp [hq])).1
    have HRo : Hid (∀ X, Below wy.heap.size wy X → Calls Try.prog 28 #[.int .i64 val] X (IntB (roomOf val : Nat) X)) := Lib.hid fun X hX => (room_ref val X).mono fun _ _ ⟨e, h2⟩ => ⟨e, by rw [← h2]; exact Below.refl _ _⟩
    have HLe : Hid (∀ X, Below wy.heap.size wy X → Calls Try.prog 20 #[.pointer (some ⟨X2.heap.size, 0, none⟩)] X (IntB (zs2.length : Int) X)) := Lib.hid fun X hX => (arlen_v (HAV.out X hX)).mono fun _ _ ⟨e, h2⟩ => ⟨e, by rw [← h2]; exact Below.refl _ _⟩
    have HNN : Hid (∀ q ∈ (gs, boxS (.pointer (some ⟨X2.heap.size, 0, none⟩)) root2) :: (w.heap.size + 1, boxD7 6 from_ i val) :: (w.heap.size, boxQ ⟨a, root, a, p, t.vals.length, c⟩) :: (es ++ bs), q.1 ≠ w.heap.size + 2) := Lib.hid fun q hq e => by
      have hN1 := HN.out.1
      simp only [List.mem_cons, List.mem_append] at hq
      rcases hq with rfl | rfl | rfl | hq | hq
      · simp only at e; have := HGS.out; omega
      · simp only at e; omega
      · simp only at e; omega
      · have := (HEs.out q hq).1; omega
      · have := hN1 q (by simp [hq]); omega
    refine wp_region_held_drew (S := (fun X => (X.cell? ⟨w.heap.size, 0, none⟩ = some (.pointer a) ∧ X.cell? ⟨w.heap.size, 1, none⟩ = some (.int .i64 root) ∧ X.cell? ⟨w.heap.size, 2, none⟩ = some (.pointer a) ∧ X.cell? ⟨w.heap.size, 3, none⟩ = some (.slice p t.vals.length c)) ∧ X.cell? ⟨w.heap.size + 1, 3, none⟩ = some (.int .i64 val) ∧ (X.cell? ⟨gs, 0, none⟩ = some (.pointer (some ⟨X2.heap.size, 0, none⟩)) ∧ X.cell? ⟨gs, 1, none⟩ = some (.int .i64 root2)))) (by as_aux_lemma => kernel_rfl) (HS.out _ BB0.out) (fun hHeld0 => ?_)
    refine wpAnyH_take (i := 0) (v := ?_) rfl (by as_aux_lemma => kernel_rfl) (by as_aux_lemma => kernel_rfl) (by as_aux_lemma => kernel_rfl) (fun _ _ _ h => h) (Or.inl ⟨by rfl, ?ymo61⟩) (by assumption) ?qmo61
    case ymo61 => (intro wz hSw; (try dsimp only at hSw); go_simp <;> with_reducible rfl)
    try simp only [Act.put, List.getElem_toArray, List.getElem_cons_zero, List.setIfInBounds_toArray, List.set_cons_zero, List.set_cons_succ]
    refine wpAnyH_take (i := 1) (v := ?_) rfl (by as_aux_lemma => kernel_rfl) (by as_aux_lemma => kernel_rfl) (by as_aux_lemma => kernel_rfl) (fun _ _ _ h => h) (Or.inl ⟨by rfl, ?ymo62⟩) (by assumption) ?qmo62
    case ymo62 => (intro wz hSw; (try dsimp only at hSw); go_simp <;> with_reducible rfl)
    try simp only [Act.put, List.getElem_toArray, List.getElem_cons_zero, List.getElem_cons_succ, List.setIfInBounds_toArray, List.set_cons_zero, List.set_cons_succ]
    refine wpAnyH_take (i := 2) (v := ?_) rfl (by as_aux_lemma => kernel_rfl) (by as_aux_lemma => kernel_rfl) (by as_aux_lemma => kernel_rfl) (fun _ _ _ h => h) (Or.inl ⟨by rfl, ?ymo63⟩) (by assumption) ?qmo63
    case ymo63 => (intro wz hSw; (try dsimp only at hSw); go_simp <;> with_reducible rfl)
    try simp only [Act.put, List.getElem_toArray, List.getElem_cons_zero, List.getElem_cons_succ, List.setIfInBounds_toArray, List.set_cons_zero, List.set_cons_succ]
    refine wpAnyH_take (i := 3) (v := ?_) rfl (by as_aux_lemma => kernel_rfl) (by as_aux_lemma => kernel_rfl) (by as_aux_lemma => kernel_rfl) (fun _ _ _ h => h) (Or.inl ⟨by rfl, ?ymo64⟩) (by assumption) ?qmo64
    case ymo64 => (intro wz hSw; (try dsimp only at hSw); go_simp <;> with_reducible rfl)
    try simp only [Act.put, List.getElem_toArray, List.getElem_cons_zero, List.getElem_cons_succ, List.setIfInBounds_toArray, List.set_cons_zero, List.set_cons_succ]
    refine wpAnyH_take (i := 4) (v := ?_) rfl (by as_aux_lemma => kernel_rfl) (by as_aux_lemma => kernel_rfl) (by as_aux_lemma => kernel_rfl) (fun _ _ _ h => h) (Or.inl ⟨by rfl, ?ymo65⟩) (by assumption) ?qmo65
    case ymo65 => (intro wz hSw; (try dsimp only at hSw); go_simp <;> with_reducible rfl)
    try simp only [Act.put, List.getElem_toArray, List.getElem_cons_zero, List.getElem_cons_succ, List.setIfInBounds_toArray, List.set_cons_zero, List.set_cons_succ]
    refine wpAnyH_take (i := 5) (v := ?_) rfl (by as_aux_lemma => kernel_rfl) (by as_aux_lemma => kernel_rfl) (by as_aux_lemma => kernel_rfl) (fun _ _ _ h => h) (Or.inl ⟨by rfl, ?ymo66⟩) (by assumption) ?qmo66
    case ymo66 => (intro wz hSw; (try dsimp only at hSw); go_simp <;> with_reducible rfl)
    try simp only [Act.put, List.getElem_toArray, List.getElem_cons_zero, List.getElem_cons_succ, List.setIfInBounds_toArray, List.set_cons_zero, List.set_cons_succ]
    refine wpAnyH_take (i := 6) (v := ?_) rfl (by as_aux_lemma => kernel_rfl) (by as_aux_lemma => kernel_rfl) (by as_aux_lemma => kernel_rfl) (fun _ _ _ h => h) (Or.inl ⟨by rfl, ?ymo67⟩) (by assumption) ?qmo67
    case ymo67 => (intro wz hSw; (try dsimp only at hSw); go_simp <;> with_reducible rfl)
    try simp only [Act.put, List.getElem_toArray, List.getElem_cons_zero, List.getElem_cons_succ, List.setIfInBounds_toArray, List.set_cons_zero, List.set_cons_succ]
    refine wpAnyH_take (i := 7) (v := ?_) rfl (by as_aux_lemma => kernel_rfl) (by as_aux_lemma => kernel_rfl) (by as_aux_lemma => kernel_rfl) (fun _ _ _ h => h) (Or.inl ⟨by rfl, ?ymo68⟩) (by assumption) ?qmo68
    case ymo68 => (intro wz hSw; (try dsimp only at hSw); go_simp <;> with_reducible rfl)
    try simp only [Act.put, List.getElem_toArray, List.getElem_cons_zero, List.getElem_cons_succ, List.setIfInBounds_toArray, List.set_cons_zero, List.set_cons_succ]
    refine wpAnyH_take (i := 8) (v := ?_) rfl (by as_aux_lemma => kernel_rfl) (by as_aux_lemma => kernel_rfl) (by as_aux_lemma => kernel_rfl) (fun _ _ _ h => h) (Or.inl ⟨by rfl, ?ymo69⟩) (by assumption) ?qmo69
    case ymo69 => (intro wz hSw; (try dsimp only at hSw); go_simp <;> with_reducible rfl)
    try simp only [Act.put, List.getElem_toArray, List.getElem_cons_zero, List.getElem_cons_succ, List.setIfInBounds_toArray, List.set_cons_zero, List.set_cons_succ]
    refine wpAnyH_take (i := 9) (v := ?_) rfl (by as_aux_lemma => kernel_rfl) (by as_aux_lemma => kernel_rfl) (by as_aux_lemma => kernel_rfl) (fun _ _ _ h => h) (Or.inl ⟨by rfl, ?ymo610⟩) (by assumption) ?qmo610
    case ymo610 => (intro wz hSw; (try dsimp only at hSw); go_simp <;> with_reducible rfl)
    try simp only [Act.put, List.getElem_toArray, List.getElem_cons_zero, List.getElem_cons_succ, List.setIfInBounds_toArray, List.set_cons_zero, List.set_cons_succ]
    refine wpAnyH_take (i := 11) (v := ?_) rfl (by as_aux_lemma => kernel_rfl) (by as_aux_lemma => kernel_rfl) (by as_aux_lemma => kernel_rfl) (fun _ _ _ h => h) (Or.inl ⟨by rfl, ?ymo611⟩) (by assumption) ?qmo611
    case ymo611 => (intro wz hSw; (try dsimp only at hSw); go_simp <;> with_reducible rfl)
    try simp only [Act.put, List.getElem_toArray, List.getElem_cons_zero, List.getElem_cons_succ, List.setIfInBounds_toArray, List.set_cons_zero, List.set_cons_succ]
    refine wpAnyH_take (i := 12) (v := ?_) rfl (by as_aux_lemma => kernel_rfl) (by as_aux_lemma => kernel_rfl) (by as_aux_lemma => kernel_rfl) (fun _ _ _ h => h) (Or.inl ⟨by rfl, ?ymo612⟩) (by assumption) ?qmo612
    case ymo612 => (intro wz hSw; (try dsimp only at hSw); go_simp <;> with_reducible rfl)
    try simp only [Act.put, List.getElem_toArray, List.getElem_cons_zero, List.getElem_cons_succ, List.setIfInBounds_toArray, List.set_cons_zero, List.set_cons_succ]
    refine wpAnyH_take (i := 13) (v := ?_) rfl (by as_aux_lemma => kernel_rfl) (by as_aux_lemma => kernel_rfl) (by as_aux_lemma => kernel_rfl) (fun _ _ _ h => h) (Or.inl ⟨by rfl, ?ymo613⟩) (by assumption) ?qmo613
    case ymo613 => (intro wz hSw; (try dsimp only at hSw); go_simp <;> with_reducible rfl)
    try simp only [Act.put, List.getElem_toArray, List.getElem_cons_zero, List.getElem_cons_succ, List.setIfInBounds_toArray, List.set_cons_zero, List.set_cons_succ]
    refine wpAnyH_ready (rs := [10]) (by as_aux_lemma => kernel_rfl) (by simp) ?_
    refine AllReadyH.cons rfl (fun K hK => ?_) AllReadyH.nil
    first | rw [if_pos (by rfl)] | skip
    go_simp
    refine (HRo.out _ BB0.out).mono ?_
    rintro e u14 ⟨rfl, hb⟩
    have CB14 := Lib.hid (Below.trans (show Below wy.heap.size wy _ from BB0.out) (hb.mono (show wy.heap.size ≤ _ from Below.size BB0.out)))
    clear hb
    refine hK.out _ _ ((HS.out _ CB14.out)) (fun hHeld14 => ?_)
    clear hK K
    try simp only [Act.put, List.getElem_toArray, List.getElem_cons_zero, List.getElem_cons_succ, List.setIfInBounds_toArray, List.set_cons_zero, List.set_cons_succ]
    refine wpAnyH_take (i := 14) (v := ?_) rfl (by as_aux_lemma => kernel_rfl) (by as_aux_lemma => kernel_rfl) (by as_aux_lemma => kernel_rfl) (fun _ _ _ h => h) (Or.inl ⟨by rfl, ?ymo615⟩) (by assumption) ?qmo615
    case ymo615 => (intro wz hSw; (try dsimp only at hSw); go_simp <;> with_reducible rfl)
    try simp only [Act.put, List.getElem_toArray, List.getElem_cons_zero, List.getElem_cons_succ, List.setIfInBounds_toArray, List.set_cons_zero, List.set_cons_succ]
    refine wpAnyH_take (i := 15) (v := ?_) rfl (by as_aux_lemma => kernel_rfl) (by as_aux_lemma => kernel_rfl) (by as_aux_lemma => kernel_rfl) (fun _ _ _ h => h) (Or.inl ⟨by rfl, ?ymo616⟩) (by assumption) ?qmo616
    case ymo616 => (intro wz hSw; (try dsimp only at hSw); go_simp <;> with_reducible rfl)
    try simp only [Act.put, List.getElem_toArray, List.getElem_cons_zero, List.getElem_cons_succ, List.setIfInBounds_toArray, List.set_cons_zero, List.set_cons_succ]
    refine wpAnyH_take (i := 16) (v := ?_) rfl (by as_aux_lemma => kernel_rfl) (by as_aux_lemma => kernel_rfl) (by as_aux_lemma => kernel_rfl) (fun _ _ _ h => h) (Or.inl ⟨by rfl, ?ymo617⟩) (by assumption) ?qmo617
    case ymo617 => (intro wz hSw; (try dsimp only at hSw); go_simp <;> with_reducible rfl)
    try simp only [Act.put, List.getElem_toArray, List.getElem_cons_zero, List.getElem_cons_succ, List.setIfInBounds_toArray, List.set_cons_zero, List.set_cons_succ]
    refine wpAnyH_take (i := 17) (v := ?_) rfl (by as_aux_lemma => kernel_rfl) (by as_aux_lemma => kernel_rfl) (by as_aux_lemma => kernel_rfl) (fun _ _ _ h => h) (Or.inl ⟨by rfl, ?ymo618⟩) (by assumption) ?qmo618
    case ymo618 => (intro wz hSw; (try dsimp only at hSw); go_simp <;> with_reducible rfl)
    try simp only [Act.put, List.getElem_toArray, List.getElem_cons_zero, List.getElem_cons_succ, List.setIfInBounds_toArray, List.set_cons_zero, List.set_cons_succ]
    refine wpAnyH_take (i := 19) (v := ?_) rfl (by as_aux_lemma => kernel_rfl) (by as_aux_lemma => kernel_rfl) (by as_aux_lemma => kernel_rfl) (fun _ _ _ h => h) (Or.inl ⟨by rfl, ?ymo619⟩) (by assumption) ?qmo619
    case ymo619 => (intro wz hSw; (try dsimp only at hSw); go_simp <;> with_reducible rfl)
    try simp only [Act.put, List.getElem_toArray, List.getElem_cons_zero, List.getElem_cons_succ, List.setIfInBounds_toArray, List.set_cons_zero, List.set_cons_succ]
    refine wpAnyH_take (i := 20) (v := ?_) rfl (by as_aux_lemma => kernel_rfl) (by as_aux_lemma => kernel_rfl) (by as_aux_lemma => kernel_rfl) (fun _ _ _ h => h) (Or.inl ⟨by rfl, ?ymo620⟩) (by assumption) ?qmo620
    case ymo620 => (intro wz hSw; (try dsimp only at hSw); go_simp <;> with_reducible rfl)
    try simp only [Act.put, List.getElem_toArray, List.getElem_cons_zero, List.getElem_cons_succ, List.setIfInBounds_toArray, List.set_cons_zero, List.set_cons_succ]
    refine wpAnyH_take (i := 21) (v := ?_) rfl (by as_aux_lemma => kernel_rfl) (by as_aux_lemma => kernel_rfl) (by as_aux_lemma => kernel_rfl) (fun _ _ _ h => h) (Or.inl ⟨by rfl, ?ymo621⟩) (by assumption) ?qmo621
    case ymo621 => (intro wz hSw; (try dsimp only at hSw); go_simp <;> with_reducible rfl)
    try simp only [Act.put, List.getElem_toArray, List.getElem_cons_zero, List.getElem_cons_succ, List.setIfInBounds_toArray, List.set_cons_zero, List.set_cons_succ]
    refine wpAnyH_ready (rs := [18]) (by as_aux_lemma => kernel_rfl) (by simp) ?_
    refine AllReadyH.cons rfl (fun K hK => ?_) AllReadyH.nil
    first | rw [if_pos (by rfl)] | skip
    go_simp
    refine (HLe.out _ CB14.out).mono ?_
    rintro e u22 ⟨rfl, hb⟩
    have CB22 := Lib.hid (Below.trans (show Below wy.heap.size wy _ from CB14.out) (hb.mono (show wy.heap.size ≤ _ from Below.size CB14.out)))
    clear hb
    refine hK.out _ _ ((HS.out _ CB22.out)) (fun hHeld22 => ?_)
    clear hK K
    try simp only [Act.put, List.getElem_toArray, List.getElem_cons_zero, List.getElem_cons_succ, List.setIfInBounds_toArray, List.set_cons_zero, List.set_cons_succ]
    refine wpAnyH_take (i := 22) (v := ?_) rfl (by as_aux_lemma => kernel_rfl) (by as_aux_lemma => kernel_rfl) (by as_aux_lemma => kernel_rfl) (fun _ _ _ h => h) (Or.inl ⟨by rfl, ?ymo623⟩) (by assumption) ?qmo623
    case ymo623 => (intro wz hSw; (try dsimp only at hSw); go_simp <;> with_reducible rfl)
    try simp only [Act.put, List.getElem_toArray, List.getElem_cons_zero, List.getElem_cons_succ, List.setIfInBounds_toArray, List.set_cons_zero, List.set_cons_succ]
    refine wpAnyH_take (i := 23) (v := ?_) rfl (by as_aux_lemma => kernel_rfl) (by as_aux_lemma => kernel_rfl) (by as_aux_lemma => kernel_rfl) (fun _ _ _ h => h) (Or.inl ⟨by rfl, ?ymo624⟩) (by assumption) ?qmo624
    case ymo624 => (intro wz hSw; (try dsimp only at hSw); go_simp <;> with_reducible rfl)
    try simp only [Act.put, List.getElem_toArray, List.getElem_cons_zero, List.getElem_cons_succ, List.setIfInBounds_toArray, List.set_cons_zero, List.set_cons_succ]
    refine wpAnyH_ready (rs := [24]) (by as_aux_lemma => kernel_rfl) (by simp) ?_
    refine AllReadyH.cons rfl (fun K hK => ?_) AllReadyH.nil
    rw [if_pos (by rfl)]
    refine wp_store_one (.tmp 4) (.tmp 178) rfl (w.heap.size + 2) ⟨(some ⟨X2.heap.size, 0, none⟩), root2, (some ⟨X2.heap.size, 0, none⟩), p, t.vals.length, c⟩ Qn.zero rfl rfl ((HX.out _ CB22.out).2.2 (w.heap.size + 2, boxQ Qn.zero) (by simp)).1 ?_
    intro v25 hst
    have HF := Lib.hid (((HX.out _ CB22.out).drop (bs' := (w.heap.size + 2, boxQ Qn.zero) :: (gs, boxS (.pointer (some ⟨X2.heap.size, 0, none⟩)) root2) :: (w.heap.size + 1, boxD7 6 from_ i val) :: (w.heap.size, boxQ ⟨a, root, a, p, t.vals.length, c⟩) :: (es ++ bs)) (by intro q hq; simp only [List.mem_cons, List.mem_append] at hq ⊢; rcases hq with h | h | h | h | h | h <;> simp [h])).store HNN.out HN.out.2.1 hst)
    clear hst
    refine hK.out _ _ (⟨(cellsQ (HF.out.2.2 (w.heap.size, boxQ ⟨a, root, a, p, t.vals.length, c⟩) (by simp)).1).2, (cellsD7 (HF.out.2.2 (w.heap.size + 1, boxD7 6 from_ i val) (by simp)).1).2.2.2.2, (cellsS (HF.out.2.2 (gs, boxS (.pointer (some ⟨X2.heap.size, 0, none⟩)) root2) (by simp)).1).2⟩) (fun hHeld25 => ?_)
    clear hK K
    try simp only [Act.put, List.getElem_toArray, List.getElem_cons_zero, List.getElem_cons_succ]
    refine wpAnyH_take (i := 25) (v := ?_) rfl (by as_aux_lemma => kernel_rfl) (by as_aux_lemma => kernel_rfl) (by as_aux_lemma => kernel_rfl) (fun _ _ _ h => h) (Or.inl ⟨by rfl, ?ymo626⟩) (by assumption) ?qmo626
    case ymo626 => (intro wz hSw; (try dsimp only at hSw); go_simp <;> with_reducible rfl)
    try simp only [Act.put, List.getElem_toArray, List.getElem_cons_zero, List.getElem_cons_succ, List.setIfInBounds_toArray, List.set_cons_zero, List.set_cons_succ]
    refine wpAnyH_done (by as_aux_lemma => kernel_rfl) ?_ _
    go_wp2_with fail
    exact bodyPost_ret (results_one _ _ (w.heap.size + 2) ⟨(some ⟨X2.heap.size, 0, none⟩), root2, (some ⟨X2.heap.size, 0, none⟩), p, t.vals.length, c⟩ true rfl rfl (HF.out.2.2 (w.heap.size + 2, boxQ ⟨(some ⟨X2.heap.size, 0, none⟩), root2, (some ⟨X2.heap.size, 0, none⟩), p, t.vals.length, c⟩) (by simp)).1) rfl ⟨⟨(some ⟨X2.heap.size, 0, none⟩), root2, (some ⟨X2.heap.size, 0, none⟩), p, t.vals.length, c⟩, o, zs, es, rfl, HF.out.drop (fun q hq => by simp only [List.mem_cons]; exact .inr (.inr (.inr (.inr hq)))), (fun q hq => by have := (HEs.out q hq).1; have := HN.out.2.2; omega), ⟨[], by simp⟩, rfl, mkN t.vals, by rw [mkN_vals _ _ rfl], by rw [mkN_vals _ _ rfl]; exact HBD.out, .inr ⟨_, rfl, HRest.out, ⟨HTr.out, mkN_k0 _ _ rfl, (mkN_high _ _ rfl).2, by rw [mkN_size, HTL.out]; exact Nat.le_succ_of_le HT.out.2.2.2⟩, by rw [mkN_vals _ _ rfl]; exact HLV.out⟩⟩
  · have hd1 : decide (((roomOf val : Nat) : Int) < (t.vals.length : Int)) = true := by rw [decide_eq_true_eq]; omega
    have hd3 : decide (roomOf val < t.vals.length) = true := by rw [decide_eq_true_eq] at hd1 ⊢; omega
    clear HM hz
    go_wp2_with (refine wpList_store_seq rfl (.tmp 17) (.tmp 152) rfl gs (some ⟨X2.heap.size, 0, none⟩) bM 0 rootM rfl rfl (P7.out.2.2 (gs, boxS (.pointer bM) rootM) (by simp)).1 ?_; intro wy hst; have HST := Lib.hid hst; clear hst; have P6 : Hid (PS w0 wy (.pointer a) o room zs (.slice none 0 0) [] ((gs, boxS (.pointer (some ⟨X2.heap.size, 0, none⟩)) 0) :: (es ++ ((w.heap.size + 2, boxQ Qn.zero) :: (w.heap.size + 1, boxD7 6 from_ i val) :: (w.heap.size, boxQ ⟨a, root, a, p, t.vals.length, c⟩) :: bs)))) := Lib.hid (((P7.out.drop (bs' := (gs, boxS (.pointer bM) rootM) :: (w.heap.size + 2, boxQ Qn.zero) :: (w.heap.size + 1, boxD7 6 from_ i val) :: (w.heap.size, boxQ ⟨a, root, a, p, t.vals.length, c⟩) :: (es ++ bs)) (by intro q hq; simp only [List.mem_cons, List.mem_append] at hq ⊢; rcases hq with h | h | h | h | h | h <;> simp [h])).store HDJ.out.1 HDJ.out.2 HST.out).drop (by intro q hq; simp only [List.mem_cons, List.mem_append] at hq ⊢; rcases hq with h | h | h | h | h | h <;> simp [h])); clear hgx x0 x1 x2 x3 hgy y0 y1 y2 y3; obtain ⟨hgx, x0, x1, x2, x3⟩ := cellsQ (P6.out.2.2 (w.heap.size, boxQ ⟨a, root, a, p, t.vals.length, c⟩) (by simp)).1; obtain ⟨hgy, y0, y1, y2, y3⟩ := cellsD7 (P6.out.2.2 (w.heap.size + 1, boxD7 6 from_ i val) (by simp)).1; simp only at x0 x1 x2 x3)
    clear hgx x0 x1 x2 x3 hgy y0 y1 y2 y3
    have HX : Hid (∀ X, Below wy.heap.size wy X → PS w0 X (.pointer a) o room zs (.slice none 0 0) [] ((gs, boxS (.pointer (some ⟨X2.heap.size, 0, none⟩)) 0) :: (es ++ ((w.heap.size + 2, boxQ Qn.zero) :: (w.heap.size + 1, boxD7 6 from_ i val) :: (w.heap.size, boxQ ⟨a, root, a, p, t.vals.length, c⟩) :: bs)))) := Lib.hid fun X hX => P6.out.below hX
    have HS : Hid (∀ X, Below wy.heap.size wy X → (fun X => (X.cell? ⟨w.heap.size, 0, none⟩ = some (.pointer a) ∧ X.cell? ⟨w.heap.size, 1, none⟩ = some (.int .i64 root) ∧ X.cell? ⟨w.heap.size, 2, none⟩ = some (.pointer a) ∧ X.cell? ⟨w.heap.size, 3, none⟩ = some (.slice p t.vals.length c)) ∧ X.cell? ⟨w.heap.size + 1, 3, none⟩ = some (.int .i64 val) ∧ (X.cell? ⟨gs, 0, none⟩ = some (.pointer (some ⟨X2.heap.size, 0, none⟩)) ∧ X.cell? ⟨gs, 1, none⟩ = some (.int .i64 0))) X) := Lib.hid fun X hX => ⟨(cellsQ ((HX.out X hX).2.2 (w.heap.size, boxQ ⟨a, root, a, p, t.vals.length, c⟩) (by simp)).1).2, (cellsD7 ((HX.out X hX).2.2 (w.heap.size + 1, boxD7 6 from_ i val) (by simp)).1).2.2.2.2, (cellsS ((HX.out X hX).2.2 (gs, boxS (.pointer (some ⟨X2.heap.size, 0, none⟩)) 0) (by simp)).1).2⟩
    have BB0 : Hid (Below wy.heap.size wy wy.drew) := Lib.hid (Below.refl _ _).drew
    have HAV : Hid (∀ X, Below wy.heap.size wy X → ArV X (.pointer (some ⟨X2.heap.size, 0, none⟩)) o2 (roomOf val) []) := Lib.hid fun X hX => HRest.out.2 X fun q hq => ((HX.out X hX).2.2 q (by simp [hq])).1
    have HRo : Hid (∀ X, Below wy.heap.size wy X → Calls Try.prog 28 #[.int .i64 val] X (IntB (roomOf val : Nat) X)) := Lib.hid fun X hX => (room_ref val X).mono fun _ _ ⟨e, h2⟩ => ⟨e, by rw [← h2]; exact Below.refl _ _⟩
    have HLe : Hid (∀ X, Below wy.heap.size wy X → Calls Try.prog 20 #[.pointer (some ⟨X2.heap.size, 0, none⟩)] X (IntB 0 X)) := Lib.hid fun X hX => (arlen_v (HAV.out X hX)).mono fun _ _ ⟨e, h2⟩ => ⟨e, by rw [← h2]; exact Below.refl _ _⟩
    have HNN : Hid (∀ q ∈ (gs, boxS (.pointer (some ⟨X2.heap.size, 0, none⟩)) 0) :: (w.heap.size + 1, boxD7 6 from_ i val) :: (w.heap.size, boxQ ⟨a, root, a, p, t.vals.length, c⟩) :: (es ++ bs), q.1 ≠ w.heap.size + 2) := Lib.hid fun q hq e => by
      have hN1 := HN.out.1
      simp only [List.mem_cons, List.mem_append] at hq
      rcases hq with rfl | rfl | rfl | hq | hq
      · simp only at e; have := HGS.out; omega
      · simp only at e; omega
      · simp only at e; omega
      · have := (HEs.out q hq).1; omega
      · have := hN1 q (by simp [hq]); omega
    have HL0 : Hid (∀ X, Below wy.heap.size wy X → Calls Try.prog 18 #[.agg #[.pointer (some ⟨X2.heap.size, 0, none⟩), .int .i64 0]] X (IntB 0 X)) := Lib.hid fun X hX => pslen (HAV.out X hX) (t := .nil) (root := 0) rfl
    refine wp_region_held_drew (S := (fun X => (X.cell? ⟨w.heap.size, 0, none⟩ = some (.pointer a) ∧ X.cell? ⟨w.heap.size, 1, none⟩ = some (.int .i64 root) ∧ X.cell? ⟨w.heap.size, 2, none⟩ = some (.pointer a) ∧ X.cell? ⟨w.heap.size, 3, none⟩ = some (.slice p t.vals.length c)) ∧ X.cell? ⟨w.heap.size + 1, 3, none⟩ = some (.int .i64 val) ∧ (X.cell? ⟨gs, 0, none⟩ = some (.pointer (some ⟨X2.heap.size, 0, none⟩)) ∧ X.cell? ⟨gs, 1, none⟩ = some (.int .i64 0)))) (by as_aux_lemma => kernel_rfl) (HS.out _ BB0.out) (fun hHeld0 => ?_)
    refine wpAnyH_take (i := 0) (v := ?_) rfl (by as_aux_lemma => kernel_rfl) (by as_aux_lemma => kernel_rfl) (by as_aux_lemma => kernel_rfl) (fun _ _ _ h => h) (Or.inl ⟨by rfl, ?ymf61⟩) (by assumption) ?qmf61
    case ymf61 => (intro wz hSw; (try dsimp only at hSw); go_simp <;> with_reducible rfl)
    try simp only [Act.put, List.getElem_toArray, List.getElem_cons_zero, List.setIfInBounds_toArray, List.set_cons_zero, List.set_cons_succ]
    refine wpAnyH_take (i := 1) (v := ?_) rfl (by as_aux_lemma => kernel_rfl) (by as_aux_lemma => kernel_rfl) (by as_aux_lemma => kernel_rfl) (fun _ _ _ h => h) (Or.inl ⟨by rfl, ?ymf62⟩) (by assumption) ?qmf62
    case ymf62 => (intro wz hSw; (try dsimp only at hSw); go_simp <;> with_reducible rfl)
    try simp only [Act.put, List.getElem_toArray, List.getElem_cons_zero, List.getElem_cons_succ, List.setIfInBounds_toArray, List.set_cons_zero, List.set_cons_succ]
    refine wpAnyH_take (i := 2) (v := ?_) rfl (by as_aux_lemma => kernel_rfl) (by as_aux_lemma => kernel_rfl) (by as_aux_lemma => kernel_rfl) (fun _ _ _ h => h) (Or.inl ⟨by rfl, ?ymf63⟩) (by assumption) ?qmf63
    case ymf63 => (intro wz hSw; (try dsimp only at hSw); go_simp <;> with_reducible rfl)
    try simp only [Act.put, List.getElem_toArray, List.getElem_cons_zero, List.getElem_cons_succ, List.setIfInBounds_toArray, List.set_cons_zero, List.set_cons_succ]
    refine wpAnyH_take (i := 4) (v := ?_) rfl (by as_aux_lemma => kernel_rfl) (by as_aux_lemma => kernel_rfl) (by as_aux_lemma => kernel_rfl) (fun _ _ _ h => h) (Or.inl ⟨by rfl, ?ymf64⟩) (by assumption) ?qmf64
    case ymf64 => (intro wz hSw; (try dsimp only at hSw); go_simp <;> with_reducible rfl)
    try simp only [Act.put, List.getElem_toArray, List.getElem_cons_zero, List.getElem_cons_succ, List.setIfInBounds_toArray, List.set_cons_zero, List.set_cons_succ]
    refine wpAnyH_take (i := 5) (v := ?_) rfl (by as_aux_lemma => kernel_rfl) (by as_aux_lemma => kernel_rfl) (by as_aux_lemma => kernel_rfl) (fun _ _ _ h => h) (Or.inl ⟨by rfl, ?ymf65⟩) (by assumption) ?qmf65
    case ymf65 => (intro wz hSw; (try dsimp only at hSw); go_simp <;> with_reducible rfl)
    try simp only [Act.put, List.getElem_toArray, List.getElem_cons_zero, List.getElem_cons_succ, List.setIfInBounds_toArray, List.set_cons_zero, List.set_cons_succ]
    refine wpAnyH_take (i := 6) (v := ?_) rfl (by as_aux_lemma => kernel_rfl) (by as_aux_lemma => kernel_rfl) (by as_aux_lemma => kernel_rfl) (fun _ _ _ h => h) (Or.inl ⟨by rfl, ?ymf66⟩) (by assumption) ?qmf66
    case ymf66 => (intro wz hSw; (try dsimp only at hSw); go_simp <;> with_reducible rfl)
    try simp only [Act.put, List.getElem_toArray, List.getElem_cons_zero, List.getElem_cons_succ, List.setIfInBounds_toArray, List.set_cons_zero, List.set_cons_succ]
    refine wpAnyH_ready (rs := [3]) (by as_aux_lemma => kernel_rfl) (by simp) ?_
    refine AllReadyH.cons rfl (fun K hK => ?_) AllReadyH.nil
    first | rw [if_pos (by rfl)] | skip
    go_simp
    refine (HRo.out _ BB0.out).mono ?_
    rintro e u7 ⟨rfl, hb⟩
    have CB7 := Lib.hid (Below.trans (show Below wy.heap.size wy _ from BB0.out) (hb.mono (show wy.heap.size ≤ _ from Below.size BB0.out)))
    clear hb
    refine hK.out _ _ ((HS.out _ CB7.out)) (fun hHeld7 => ?_)
    clear hK K
    try simp only [Act.put, List.getElem_toArray, List.getElem_cons_zero, List.getElem_cons_succ, List.setIfInBounds_toArray, List.set_cons_zero, List.set_cons_succ]
    refine wpAnyH_take (i := 7) (v := ?_) rfl (by as_aux_lemma => kernel_rfl) (by as_aux_lemma => kernel_rfl) (by as_aux_lemma => kernel_rfl) (fun _ _ _ h => h) (Or.inl ⟨by rfl, ?ymf68⟩) (by assumption) ?qmf68
    case ymf68 => (intro wz hSw; (try dsimp only at hSw); go_simp <;> with_reducible rfl)
    try simp only [Act.put, List.getElem_toArray, List.getElem_cons_zero, List.getElem_cons_succ, List.setIfInBounds_toArray, List.set_cons_zero, List.set_cons_succ]
    refine wpAnyH_take (i := 8) (v := ?_) rfl (by as_aux_lemma => kernel_rfl) (by as_aux_lemma => kernel_rfl) (by as_aux_lemma => kernel_rfl) (fun _ _ _ h => h) (Or.inl ⟨by rfl, ?ymf69⟩) (by assumption) ?qmf69
    case ymf69 => (intro wz hSw; (try dsimp only at hSw); go_simp <;> with_reducible rfl)
    try simp only [Act.put, List.getElem_toArray, List.getElem_cons_zero, List.getElem_cons_succ, List.setIfInBounds_toArray, List.set_cons_zero, List.set_cons_succ]
    refine wpAnyH_take (i := 9) (v := ?_) rfl (by as_aux_lemma => kernel_rfl) (by as_aux_lemma => kernel_rfl) (by as_aux_lemma => kernel_rfl) (fun _ _ _ h => h) (Or.inl ⟨by rfl, ?ymf610⟩) (by assumption) ?qmf610
    case ymf610 => (intro wz hSw; (try dsimp only at hSw); go_simp <;> with_reducible rfl)
    try simp only [Act.put, List.getElem_toArray, List.getElem_cons_zero, List.getElem_cons_succ, List.setIfInBounds_toArray, List.set_cons_zero, List.set_cons_succ]
    refine wpAnyH_ready (rs := [10]) (by as_aux_lemma => kernel_rfl) (by simp) ?_
    refine AllReadyH.cons rfl (fun K hK => ?_) AllReadyH.nil
    first | rw [if_pos (by rfl)] | skip
    go_simp
    refine (HLe.out _ CB7.out).mono ?_
    rintro e u11 ⟨rfl, hb⟩
    have CB11 := Lib.hid (Below.trans (show Below wy.heap.size wy _ from CB7.out) (hb.mono (show wy.heap.size ≤ _ from Below.size CB7.out)))
    clear hb
    refine hK.out _ _ ((HS.out _ CB11.out)) (fun hHeld11 => ?_)
    clear hK K
    try simp only [Act.put, List.getElem_toArray, List.getElem_cons_zero, List.getElem_cons_succ, List.setIfInBounds_toArray, List.set_cons_zero, List.set_cons_succ]
    refine wpAnyH_take (i := 11) (v := ?_) rfl (by as_aux_lemma => kernel_rfl) (by as_aux_lemma => kernel_rfl) (by as_aux_lemma => kernel_rfl) (fun _ _ _ h => h) (Or.inl ⟨by rfl, ?ymf612⟩) (by assumption) ?qmf612
    case ymf612 => (intro wz hSw; (try dsimp only at hSw); go_simp <;> with_reducible rfl)
    try simp only [Act.put, List.getElem_toArray, List.getElem_cons_zero, List.getElem_cons_succ, List.setIfInBounds_toArray, List.set_cons_zero, List.set_cons_succ]
    refine wpAnyH_take (i := 12) (v := ?_) rfl (by as_aux_lemma => kernel_rfl) (by as_aux_lemma => kernel_rfl) (by as_aux_lemma => kernel_rfl) (fun _ _ _ h => h) (Or.inl ⟨by rfl, ?ymf613⟩) (by assumption) ?qmf613
    case ymf613 => (intro wz hSw; (try dsimp only at hSw); go_simp <;> with_reducible rfl)
    try simp only [Act.put, List.getElem_toArray, List.getElem_cons_zero, List.getElem_cons_succ, List.setIfInBounds_toArray, List.set_cons_zero, List.set_cons_succ]
    refine wpAnyH_take (i := 13) (v := ?_) rfl (by as_aux_lemma => kernel_rfl) (by as_aux_lemma => kernel_rfl) (by as_aux_lemma => kernel_rfl) (fun _ _ _ h => h) (Or.inl ⟨by rfl, ?ymf614⟩) (by assumption) ?qmf614
    case ymf614 => (intro wz hSw; (try dsimp only at hSw); go_simp <;> with_reducible rfl)
    try simp only [Act.put, List.getElem_toArray, List.getElem_cons_zero, List.getElem_cons_succ, List.setIfInBounds_toArray, List.set_cons_zero, List.set_cons_succ]
    refine wpAnyH_take (i := 14) (v := ?_) rfl (by as_aux_lemma => kernel_rfl) (by as_aux_lemma => kernel_rfl) (by as_aux_lemma => kernel_rfl) (fun _ _ _ h => h) (Or.inl ⟨by rfl, ?ymf615⟩) (by assumption) ?qmf615
    case ymf615 => (intro wz hSw; (try dsimp only at hSw); go_simp <;> with_reducible rfl)
    try simp only [Act.put, List.getElem_toArray, List.getElem_cons_zero, List.getElem_cons_succ, List.setIfInBounds_toArray, List.set_cons_zero, List.set_cons_succ]
    refine wpAnyH_ready (rs := [15]) (by as_aux_lemma => kernel_rfl) (by simp) ?_
    refine AllReadyH.cons rfl (fun K hK => ?_) AllReadyH.nil
    first | rw [if_pos (by rfl)] | skip
    go_simp
    refine (HL0.out _ CB11.out).mono ?_
    rintro e u16 ⟨rfl, hb⟩
    have CB16 := Lib.hid (Below.trans (show Below wy.heap.size wy _ from CB11.out) (hb.mono (show wy.heap.size ≤ _ from Below.size CB11.out)))
    clear hb
    refine hK.out _ _ ((HS.out _ CB16.out)) (fun hHeld16 => ?_)
    clear hK K
    try simp only [Act.put, List.getElem_toArray, List.getElem_cons_zero, List.getElem_cons_succ, List.setIfInBounds_toArray, List.set_cons_zero, List.set_cons_succ]
    refine wpAnyH_take (i := 16) (v := ?_) rfl (by as_aux_lemma => kernel_rfl) (by as_aux_lemma => kernel_rfl) (by as_aux_lemma => kernel_rfl) (fun _ _ _ h => h) (Or.inl ⟨by rfl, ?ymf617⟩) (by assumption) ?qmf617
    case ymf617 => (intro wz hSw; (try dsimp only at hSw); go_simp <;> with_reducible rfl)
    try simp only [Act.put, List.getElem_toArray, List.getElem_cons_zero, List.getElem_cons_succ, List.setIfInBounds_toArray, List.set_cons_zero, List.set_cons_succ]
    refine wpAnyH_take (i := 17) (v := ?_) rfl (by as_aux_lemma => kernel_rfl) (by as_aux_lemma => kernel_rfl) (by as_aux_lemma => kernel_rfl) (fun _ _ _ h => h) (Or.inl ⟨by rfl, ?ymf618⟩) (by assumption) ?qmf618
    case ymf618 => (intro wz hSw; (try dsimp only at hSw); go_simp <;> with_reducible rfl)
    try simp only [Act.put, List.getElem_toArray, List.getElem_cons_zero, List.getElem_cons_succ, List.setIfInBounds_toArray, List.set_cons_zero, List.set_cons_succ]
    refine wpAnyH_ready (rs := [18]) (by as_aux_lemma => kernel_rfl) (by simp) ?_
    refine AllReadyH.cons rfl (fun K hK => ?_) AllReadyH.nil
    rw [if_pos (by rfl)]
    refine wp_store_one (.tmp 4) (.tmp 156) rfl (w.heap.size + 2) ⟨a, root, a, p, t.vals.length, c⟩ Qn.zero rfl rfl ((HX.out _ CB16.out).2.2 (w.heap.size + 2, boxQ Qn.zero) (by simp)).1 ?_
    intro v19 hst
    have HF := Lib.hid (((HX.out _ CB16.out).drop (bs' := (w.heap.size + 2, boxQ Qn.zero) :: (gs, boxS (.pointer (some ⟨X2.heap.size, 0, none⟩)) 0) :: (w.heap.size + 1, boxD7 6 from_ i val) :: (w.heap.size, boxQ ⟨a, root, a, p, t.vals.length, c⟩) :: (es ++ bs)) (by intro q hq; simp only [List.mem_cons, List.mem_append] at hq ⊢; rcases hq with h | h | h | h | h | h <;> simp [h])).store HNN.out HN.out.2.1 hst)
    clear hst
    refine hK.out _ _ (⟨(cellsQ (HF.out.2.2 (w.heap.size, boxQ ⟨a, root, a, p, t.vals.length, c⟩) (by simp)).1).2, (cellsD7 (HF.out.2.2 (w.heap.size + 1, boxD7 6 from_ i val) (by simp)).1).2.2.2.2, (cellsS (HF.out.2.2 (gs, boxS (.pointer (some ⟨X2.heap.size, 0, none⟩)) 0) (by simp)).1).2⟩) (fun hHeld19 => ?_)
    clear hK K
    try simp only [Act.put, List.getElem_toArray, List.getElem_cons_zero, List.getElem_cons_succ]
    refine wpAnyH_take (i := 19) (v := ?_) rfl (by as_aux_lemma => kernel_rfl) (by as_aux_lemma => kernel_rfl) (by as_aux_lemma => kernel_rfl) (fun _ _ _ h => h) (Or.inl ⟨by rfl, ?ymf620⟩) (by assumption) ?qmf620
    case ymf620 => (intro wz hSw; (try dsimp only at hSw); go_simp <;> with_reducible rfl)
    try simp only [Act.put, List.getElem_toArray, List.getElem_cons_zero, List.getElem_cons_succ, List.setIfInBounds_toArray, List.set_cons_zero, List.set_cons_succ]
    refine wpAnyH_done (by as_aux_lemma => kernel_rfl) ?_ _
    go_wp2_with fail
    exact bodyPost_ret (results_one _ _ (w.heap.size + 2) ⟨a, root, a, p, t.vals.length, c⟩ true rfl rfl (HF.out.2.2 (w.heap.size + 2, boxQ ⟨a, root, a, p, t.vals.length, c⟩) (by simp)).1) rfl (sq_same (nb := es) (HF.out.drop (fun q hq => by simp only [List.mem_cons]; exact .inr (.inr (.inr (.inr hq))))) (fun q hq => by have := (HEs.out q hq).1; have := HN.out.2.2; omega) HT.out HBD.out HLV.out)
end Go.Proofs.Ytbgepeokadmemaa.Q
