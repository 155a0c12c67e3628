/-
  SeqPlays: step's contract, a deed of kind 4. Not a statement of the seat.
-/
import Derived.Test.YtbgepeokadmemaaSqStep
namespace Go.Proofs.Ytbgepeokadmemaa.Q
open Go.ChangeShapes Go.WideShapes Go.ChangeAt Go.RowKit Go.Sort Base F BigFrame
set_option maxHeartbeats 16000000 in
set_option maxRecDepth 100000 in
theorem sqstep4 {w0 w : World} {a : Option Addr} {o : Option Nat} {room : Nat} {zs : List Cel} {bs ls : List (Nat × Obj)} {t : Tre} {root : Int} {p : Option Addr} {c n : Nat} (i : Nat) (from_ val : Int) (h : PS w0 w (.pointer a) o room zs (.slice none 0 0) [] bs) (ht : NS zs t root n) (hn : n ≤ 1000) (hbd : Bd7 t.vals) (hlv : LI ls (.slice p t.vals.length c) t.vals) (hsub : ∀ q ∈ ls, q ∈ bs) (hi : i < t.size) :
    Calls Try.prog 7 #[.agg #[.pointer a, .int .i64 root, .pointer a, .slice p t.vals.length c], .agg #[.int .i64 4, .int .i64 from_, .int .i64 (i : Int), .int .i64 val]] w (SqAll w0 w a room zs bs ls (n + 1)) := by
  have P3 := Lib.hid (((h.addAt (boxQ ⟨a, root, a, p, t.vals.length, c⟩) rfl).addAt (g := w.heap.size + 1) (boxD7 4 from_ (i : Int) val) (by simp)).addAt (g := w.heap.size + 2) (boxQ Qn.zero) (by simp))
  have HT := Lib.hid ht
  have hh : t.high ≤ 70000 := by have := t.high_le_size; have := ht.2.2.2; omega
  have HLE := Lib.hid h.1.1.le
  have HLV := Lib.hid hlv
  have HSUB := Lib.hid hsub
  have HBD := Lib.hid hbd
  have HN : Hid ((∀ q ∈ (w.heap.size + 1, boxD7 4 from_ (i : Int) val) :: (w.heap.size, boxQ ⟨a, root, a, p, t.vals.length, c⟩) :: bs, q.1 < w.heap.size + 2) ∧ w0.heap.size ≤ w.heap.size + 2 ∧ 0 = 0) := Lib.hid ⟨fun q hq => by
    simp only [List.mem_cons] at hq
    rcases hq with rfl | rfl | hq
    · simp only; omega
    · simp only; omega
    · have := heap_lt (h.2.2 q hq).1; omega, by have := h.1.2.1.size; omega, rfl⟩
  clear h ht hlv hsub hbd
  obtain ⟨X0, hX0⟩ : ∃ X0, X0 = ((w.alloc (boxQ ⟨a, root, a, p, t.vals.length, c⟩)).alloc (boxD7 4 from_ (i : Int) val)).alloc (boxQ Qn.zero) := ⟨_, rfl⟩
  have hX1 : ((w.alloc (.cells #[.pointer a, .int .i64 root, .pointer a, .slice p t.vals.length c] 31)).alloc (.cells #[.int .i64 4, .int .i64 from_, .int .i64 (i : Int), .int .i64 val] 34)).alloc (.cells #[.pointer none, .int .i64 0, .pointer none, .slice none 0 0] 31) = X0 := hX0.symm
  rw [← hX0] at P3
  clear hX0
  have HX1 := Lib.hid hX1
  clear hX1
  go_enter Try.func7, Try.ntmps7
  go_wp2_with fail
  rw [HX1.out]
  clear HX1
  refine (arlen_v P3.out.1.1).mono ?_
  rintro e w1 ⟨rfl, rfl⟩
  obtain ⟨hgx, x0, x1, x2, x3⟩ := cellsQ (P3.out.2.2 (w.heap.size, boxQ ⟨a, root, a, p, t.vals.length, c⟩) (by simp)).1
  simp only at x0 x1 x2 x3
  go_wp2_with fail
  have k0 := cell_regrown x0
  have k1 := cell_regrown x1
  have k2 := cell_regrown x2
  have HR1 : Hid (∀ d os, Calls Try.prog 21 #[.pointer a] (grow (redrawn X0 d) os) fun e w'' => e = .returned (.int .i64 ((room : Int) - (zs.length : Int))) ∧ ∃ p : Regrown, w'' = grow (redrawn X0 p.d) p.os) := Lib.hid fun d os => Calls.regrown_of ((arroom_v (P3.out.below (below_regrown X0 d os)).1.1).mono fun _ _ ⟨e, n, h2⟩ => ⟨e, by rw [h2]; exact below_drewN (Below.refl _ _) n⟩)
  have HR3 : Hid (∀ d os, Calls Try.prog 19 #[.agg #[.pointer a, .int .i64 root]] (grow (redrawn X0 d) os) fun e w'' => e = .returned (.int .i64 (t.high : Int)) ∧ ∃ p : Regrown, w'' = grow (redrawn X0 p.d) p.os) := Lib.hid fun d os => Calls.regrown_of (pshigh (P3.out.below (below_regrown X0 d os)).1.1 (t := t) (root := root) HT.out.1)
  refine wp_region_quiet_below (by kernel_rfl) (by kernel_rfl) ?_
  repeat (go_big_quiet_step (first | exact HR1.out _ _ | exact HR3.out _ _))
  refine wpQuiet_nil ?_
  intro _ hw'
  obtain ⟨⟨dq, osq⟩, hw''⟩ := hw'
  subst hw''
  have P4 := Lib.hid (P3.out.below (below_regrown X0 dq osq))
  obtain ⟨X1, hX1⟩ : ∃ X1, X1 = grow (redrawn X0 dq) osq := ⟨_, rfl⟩
  have HXS : Hid (w.heap.size + 2 < X1.heap.size) := Lib.hid (by rw [hX1]; exact heap_lt (P4.out.2.2 (w.heap.size + 2, boxQ Qn.zero) (by simp)).1)
  rw [← hX1] at P4
  rw [← hX1]
  clear hX1 P3 HR1 HR3 k0 k1 k2 hgx x0 x1 x2 x3
  obtain ⟨hgx, x0, x1, x2, x3⟩ := cellsQ (P4.out.2.2 (w.heap.size, boxQ ⟨a, root, a, p, t.vals.length, c⟩) (by simp)).1
  obtain ⟨hgy, y0, y1, y2, y3⟩ := cellsD7 (P4.out.2.2 (w.heap.size + 1, boxD7 4 from_ (i : Int) val) (by simp)).1
  simp only at x0 x1 x2 x3
  have hle1 := HLE.out.1
  have hle2 := HLE.out.2
  have HTL : Hid (t.vals.length = t.size) := Lib.hid (Tre.vals_len t)
  have HSL : Hid (∀ X, PS w0 X (.pointer a) o room zs (.slice none 0 0) [] ((w.heap.size + 2, boxQ Qn.zero) :: (w.heap.size + 1, boxD7 4 from_ (i : Int) val) :: (w.heap.size, boxQ ⟨a, root, a, p, t.vals.length, c⟩) :: bs) → Or.SL X (.slice p t.vals.length c) t.vals) := Lib.hid fun X hX => LI.sl (HLV.out.mono (bs' := (w.heap.size + 2, boxQ Qn.zero) :: (w.heap.size + 1, boxD7 4 from_ (i : Int) val) :: (w.heap.size, boxQ ⟨a, root, a, p, t.vals.length, c⟩) :: bs) (fun q hq => by simp only [List.mem_cons]; exact .inr (.inr (.inr (HSUB.out q hq))))) (fun q hq => (hX.2.2 q hq).1) (by rw [HTL.out]; have := HT.out.2.2.2; omega)
  go_wp2_with fail
  refine (Or.rthere_any (i : Int) _ (HSL.out _ P4.out)).mono ?_
  rintro e w2 ⟨rfl, rfl⟩
  rw [decide_eq_true (show 0 ≤ (i : Int) ∧ (i : Int) < (t.vals.length : Int) by have := HTL.out; omega)]

  go_wp2_with fail
  refine (Or.rdel_any i _ (HSL.out _ P4.out) (by rw [HTL.out]; exact hi) (by rw [HTL.out]; have := HT.out.2.2.2; omega)).mono ?_
  rintro e w3 ⟨v1, rfl, hW1, hW2⟩
  obtain ⟨nb, hPL, hLI, hnb⟩ := PS.ints P4.out hW2 hW1
  obtain ⟨pl, cl, hvl, _, _⟩ := hLI.form
  subst hvl
  have HLI := Lib.hid hLI
  have P5 := Lib.hid hPL
  have HNB : Hid (∀ q ∈ nb, X1.heap.size ≤ q.1) := Lib.hid hnb
  clear hW1 hW2 hPL hLI hnb P4 hgx x0 x1 x2 x3 hgy y0 y1 y2 y3
  obtain ⟨hgx, x0, x1, x2, x3⟩ := cellsQ (P5.out.2.2 (w.heap.size, boxQ ⟨a, root, a, p, t.vals.length, c⟩) (by simp)).1
  obtain ⟨hgy, y0, y1, y2, y3⟩ := cellsD7 (P5.out.2.2 (w.heap.size + 1, boxD7 4 from_ (i : Int) val) (by simp)).1
  simp only at x0 x1 x2 x3
  have HLL : Hid ((t.vals.take i ++ t.vals.drop (i + 1)) = (Tre.delAt i t).vals ∧ Bd7 (t.vals.take i ++ t.vals.drop (i + 1)) ∧ K0 (Tre.delAt i t) ∧ (Tre.delAt i t).bal ∧ (Tre.delAt i t).size ≤ n + 1) := Lib.hid (⟨by rw [Tre.delAt_vals t i hi, List.eraseIdx_eq_take_drop_succ], fun x hx => by
    rcases List.mem_append.1 hx with h | h
    · exact HBD.out x (List.mem_of_mem_take h)
    · exact HBD.out x (List.mem_of_mem_drop h), chg_k0 (f := Tre.delF) (fun t h => delF_k0 t h) t _ HT.out.2.1, (Tre.delAt_bal i HT.out.2.2.1).1, by rw [← Tre.vals_len, Tre.delAt_vals t i hi, List.length_eraseIdx, if_pos (by rw [HTL.out]; exact hi), HTL.out]; have := HT.out.2.2.2; omega⟩)
  generalize hL2 : (t.vals.take i ++ t.vals.drop (i + 1)) = l2 at HLI HLL ⊢
  clear hL2
  go_wp2_with fail
  refine (psdel i P5.out.1.1 (t := t) (root := root) HT.out.1 HT.out.2.1 (by have := HT.out.2.2.2; omega) hi).mono ?_
  intro e w4 hp
  generalize hT2 : Tre.delAt i t = T at hp HLL
  clear hT2
  obtain ⟨rt2, why, zs2, hs, hM⟩ := hp.step
  obtain ⟨rfl, o2, P6⟩ := P5.out.step hs
  clear hp hs P5 hgx x0 x1 x2 x3 hgy y0 y1 y2 y3
  rcases hM.out with ⟨rfl, hP⟩ | ⟨rfl, hzz, rfl, hZ⟩
  · have HP := Lib.hid hP
    clear hP hM
    have P7 := Lib.hid (P6.out.addAt (boxS (.pointer a) rt2) rfl)
    obtain ⟨hgx, x0, x1, x2, x3⟩ := cellsQ (P6.out.2.2 (w.heap.size, boxQ ⟨a, root, a, p, t.vals.length, c⟩) (by simp)).1
    obtain ⟨hgy, y0, y1, y2, y3⟩ := cellsD7 (P6.out.2.2 (w.heap.size + 1, boxD7 4 from_ (i : Int) val) (by simp)).1
    simp only at x0 x1 x2 x3
    go_wp2_with fail
    refine (judge_ok _).mono ?_
    rintro e w5 ⟨rfl, hb⟩
    have P8 := Lib.hid (P7.out.below hb)
    clear hb P7 hgx x0 x1 x2 x3 hgy y0 y1 y2 y3
    go_wp2_with (refine wpList_store_one rfl (.tmp 4) (.tmp 126) rfl (w.heap.size + 2) ⟨a, rt2, a, pl, _, cl⟩ Qn.zero rfl rfl (P8.out.2.2 (w.heap.size + 2, boxQ Qn.zero) (by simp)).1 ?_; intro w9 hst; have HST := Lib.hid hst; clear hst)
    have PZ := (P8.out.drop (bs' := (w.heap.size + 2, boxQ Qn.zero) :: ((w.heap.size + 1, boxD7 4 from_ (i : Int) val) :: (w.heap.size, boxQ ⟨a, root, a, p, t.vals.length, c⟩) :: (nb ++ bs))) (by intro q hq; simp only [List.mem_cons, List.mem_append] at hq ⊢; rcases hq with h | h | h | h | h <;> simp [h])).store (fun q hq => by
      have hN1 := HN.out.1
      simp only [List.mem_cons, List.mem_append] at hq
      rcases hq with hq | hq | hq | hq
      · exact Nat.ne_of_lt (hN1 q (by simp [hq]))
      · exact Nat.ne_of_lt (hN1 q (by simp [hq]))
      · have := HNB.out q hq; have := HXS.out; omega
      · exact Nat.ne_of_lt (hN1 q (by simp [hq]))) HN.out.2.1 HST.out
    exact bodyPost_ret (results_one _ _ (w.heap.size + 2) ⟨a, rt2, a, pl, _, cl⟩ true rfl rfl HST.out.2.2.2.2.1) rfl (sq_new (nb := nb) (PZ.drop fun q hq => by simp only [List.mem_cons, List.mem_append] at hq ⊢; simp [hq]) (fun q hq => by have h1 := HNB.out q hq; have h2 := HXS.out; have h3 := HN.out.2.2; omega) (by obtain ⟨⟨new, he, _⟩, _⟩ := HP.out; exact ⟨new, he⟩) ⟨HP.out.2, HLL.out.2.2.1, HLL.out.2.2.2.1, HLL.out.2.2.2.2⟩ HLL.out.1.symm HLL.out.2.1 HLI.out)
  · obtain rfl : zs = zs2 := hzz.symm
    have P7 := Lib.hid (P6.out.addAt (boxS (.pointer a) 0) rfl)
    have hen : decide (3 * ((t.high : Int) + 1) ≤ (room : Int) - (zs.length : Int)) = false := by rw [decide_eq_false_iff_not]; omega
    try rw [hen]
    clear hM hZ
    obtain ⟨hgx, x0, x1, x2, x3⟩ := cellsQ (P6.out.2.2 (w.heap.size, boxQ ⟨a, root, a, p, t.vals.length, c⟩) (by simp)).1
    obtain ⟨hgy, y0, y1, y2, y3⟩ := cellsD7 (P6.out.2.2 (w.heap.size + 1, boxD7 4 from_ (i : Int) val) (by simp)).1
    simp only at x0 x1 x2 x3
    go_wp2_with fail
    refine (judge_full _ P7.out.1.1).mono ?_
    rintro e w5 ⟨rfl, hb⟩
    have P8 := Lib.hid (P7.out.below hb)
    clear hb P7 hgx x0 x1 x2 x3 hgy y0 y1 y2 y3
    go_wp2_with (refine wpList_store_one rfl (.tmp 4) (.tmp 126) rfl (w.heap.size + 2) ⟨a, root, a, p, t.vals.length, c⟩ Qn.zero rfl rfl (P8.out.2.2 (w.heap.size + 2, boxQ Qn.zero) (by simp)).1 ?_; intro w9 hst; have HST := Lib.hid hst; clear hst)
    have PZ := (P8.out.drop (bs' := (w.heap.size + 2, boxQ Qn.zero) :: ((w.heap.size + 1, boxD7 4 from_ (i : Int) val) :: (w.heap.size, boxQ ⟨a, root, a, p, t.vals.length, c⟩) :: (nb ++ bs))) (by intro q hq; simp only [List.mem_cons, List.mem_append] at hq ⊢; rcases hq with h | h | h | h | h <;> simp [h])).store (fun q hq => by
      have hN1 := HN.out.1
      simp only [List.mem_cons, List.mem_append] at hq
      rcases hq with hq | hq | hq | hq
      · exact Nat.ne_of_lt (hN1 q (by simp [hq]))
      · exact Nat.ne_of_lt (hN1 q (by simp [hq]))
      · have := HNB.out q hq; have := HXS.out; omega
      · exact Nat.ne_of_lt (hN1 q (by simp [hq]))) HN.out.2.1 HST.out
    exact bodyPost_ret (results_one _ _ (w.heap.size + 2) ⟨a, root, a, p, t.vals.length, c⟩ true rfl rfl HST.out.2.2.2.2.1) rfl (sq_same (nb := nb) (PZ.drop fun q hq => by simp only [List.mem_cons, List.mem_append] at hq ⊢; simp [hq]) (fun q hq => by have h1 := HNB.out q hq; have h2 := HXS.out; have h3 := HN.out.2.2; omega) HT.out HBD.out HLV.out)
set_option maxHeartbeats 16000000 in
set_option maxRecDepth 100000 in
theorem sqstep4_no {w0 w : World} {a : Option Addr} {o : Option Nat} {room : Nat} {zs : List Cel} {bs ls : List (Nat × Obj)} {t : Tre} {root : Int} {p : Option Addr} {c n : Nat} (from_ i val : Int) (h : PS w0 w (.pointer a) o room zs (.slice none 0 0) [] bs) (ht : NS zs t root n) (hn : n ≤ 1000) (hbd : Bd7 t.vals) (hlv : LI ls (.slice p t.vals.length c) t.vals) (hsub : ∀ q ∈ ls, q ∈ bs) (hi : ¬ (0 ≤ i ∧ i < (t.size : Int))) :
    Calls Try.prog 7 #[.agg #[.pointer a, .int .i64 root, .pointer a, .slice p t.vals.length c], .agg #[.int .i64 4, .int .i64 from_, .int .i64 i, .int .i64 val]] w (SqAll w0 w a room zs bs ls (n + 1)) := by
  have P3 := Lib.hid (((h.addAt (boxQ ⟨a, root, a, p, t.vals.length, c⟩) rfl).addAt (g := w.heap.size + 1) (boxD7 4 from_ i val) (by simp)).addAt (g := w.heap.size + 2) (boxQ Qn.zero) (by simp))
  have HT := Lib.hid ht
  have hh : t.high ≤ 70000 := by have := t.high_le_size; have := ht.2.2.2; omega
  have HLE := Lib.hid h.1.1.le
  have HLV := Lib.hid hlv
  have HSUB := Lib.hid hsub
  have HBD := Lib.hid hbd
  have HN : Hid ((∀ q ∈ (w.heap.size + 1, boxD7 4 from_ i val) :: (w.heap.size, boxQ ⟨a, root, a, p, t.vals.length, c⟩) :: bs, q.1 < w.heap.size + 2) ∧ w0.heap.size ≤ w.heap.size + 2 ∧ 0 = 0) := Lib.hid ⟨fun q hq => by
    simp only [List.mem_cons] at hq
    rcases hq with rfl | rfl | hq
    · simp only; omega
    · simp only; omega
    · have := heap_lt (h.2.2 q hq).1; omega, by have := h.1.2.1.size; omega, rfl⟩
  clear h ht hlv hsub hbd
  obtain ⟨X0, hX0⟩ : ∃ X0, X0 = ((w.alloc (boxQ ⟨a, root, a, p, t.vals.length, c⟩)).alloc (boxD7 4 from_ i val)).alloc (boxQ Qn.zero) := ⟨_, rfl⟩
  have hX1 : ((w.alloc (.cells #[.pointer a, .int .i64 root, .pointer a, .slice p t.vals.length c] 31)).alloc (.cells #[.int .i64 4, .int .i64 from_, .int .i64 i, .int .i64 val] 34)).alloc (.cells #[.pointer none, .int .i64 0, .pointer none, .slice none 0 0] 31) = X0 := hX0.symm
  rw [← hX0] at P3
  clear hX0
  have HX1 := Lib.hid hX1
  clear hX1
  go_enter Try.func7, Try.ntmps7
  go_wp2_with fail
  rw [HX1.out]
  clear HX1
  refine (arlen_v P3.out.1.1).mono ?_
  rintro e w1 ⟨rfl, rfl⟩
  obtain ⟨hgx, x0, x1, x2, x3⟩ := cellsQ (P3.out.2.2 (w.heap.size, boxQ ⟨a, root, a, p, t.vals.length, c⟩) (by simp)).1
  simp only at x0 x1 x2 x3
  go_wp2_with fail
  have k0 := cell_regrown x0
  have k1 := cell_regrown x1
  have k2 := cell_regrown x2
  have HR1 : Hid (∀ d os, Calls Try.prog 21 #[.pointer a] (grow (redrawn X0 d) os) fun e w'' => e = .returned (.int .i64 ((room : Int) - (zs.length : Int))) ∧ ∃ p : Regrown, w'' = grow (redrawn X0 p.d) p.os) := Lib.hid fun d os => Calls.regrown_of ((arroom_v (P3.out.below (below_regrown X0 d os)).1.1).mono fun _ _ ⟨e, n, h2⟩ => ⟨e, by rw [h2]; exact below_drewN (Below.refl _ _) n⟩)
  have HR3 : Hid (∀ d os, Calls Try.prog 19 #[.agg #[.pointer a, .int .i64 root]] (grow (redrawn X0 d) os) fun e w'' => e = .returned (.int .i64 (t.high : Int)) ∧ ∃ p : Regrown, w'' = grow (redrawn X0 p.d) p.os) := Lib.hid fun d os => Calls.regrown_of (pshigh (P3.out.below (below_regrown X0 d os)).1.1 (t := t) (root := root) HT.out.1)
  refine wp_region_quiet_below (by kernel_rfl) (by kernel_rfl) ?_
  repeat (go_big_quiet_step (first | exact HR1.out _ _ | exact HR3.out _ _))
  refine wpQuiet_nil ?_
  intro _ hw'
  obtain ⟨⟨dq, osq⟩, hw''⟩ := hw'
  subst hw''
  have P4 := Lib.hid (P3.out.below (below_regrown X0 dq osq))
  obtain ⟨X1, hX1⟩ : ∃ X1, X1 = grow (redrawn X0 dq) osq := ⟨_, rfl⟩
  have HXS : Hid (w.heap.size + 2 < X1.heap.size) := Lib.hid (by rw [hX1]; exact heap_lt (P4.out.2.2 (w.heap.size + 2, boxQ Qn.zero) (by simp)).1)
  rw [← hX1] at P4
  rw [← hX1]
  clear hX1 P3 HR1 HR3 k0 k1 k2 hgx x0 x1 x2 x3
  obtain ⟨hgx, x0, x1, x2, x3⟩ := cellsQ (P4.out.2.2 (w.heap.size, boxQ ⟨a, root, a, p, t.vals.length, c⟩) (by simp)).1
  obtain ⟨hgy, y0, y1, y2, y3⟩ := cellsD7 (P4.out.2.2 (w.heap.size + 1, boxD7 4 from_ i val) (by simp)).1
  simp only at x0 x1 x2 x3
  have hle1 := HLE.out.1
  have hle2 := HLE.out.2
  have HTL : Hid (t.vals.length = t.size) := Lib.hid (Tre.vals_len t)
  have HSL : Hid (∀ X, PS w0 X (.pointer a) o room zs (.slice none 0 0) [] ((w.heap.size + 2, boxQ Qn.zero) :: (w.heap.size + 1, boxD7 4 from_ i val) :: (w.heap.size, boxQ ⟨a, root, a, p, t.vals.length, c⟩) :: bs) → Or.SL X (.slice p t.vals.length c) t.vals) := Lib.hid fun X hX => LI.sl (HLV.out.mono (bs' := (w.heap.size + 2, boxQ Qn.zero) :: (w.heap.size + 1, boxD7 4 from_ i val) :: (w.heap.size, boxQ ⟨a, root, a, p, t.vals.length, c⟩) :: bs) (fun q hq => by simp only [List.mem_cons]; exact .inr (.inr (.inr (HSUB.out q hq))))) (fun q hq => (hX.2.2 q hq).1) (by rw [HTL.out]; have := HT.out.2.2.2; omega)
  go_wp2_with fail
  refine (Or.rthere_any i _ (HSL.out _ P4.out)).mono ?_
  rintro e w2 ⟨rfl, rfl⟩
  rw [decide_eq_false (show ¬ (0 ≤ i ∧ i < (t.vals.length : Int)) by rw [HTL.out]; exact hi)]

  go_wp2_with fail
  refine (psdel_none i P4.out.1.1 (t := t) (root := root) HT.out.1 hi).mono ?_
  rintro e w4 ⟨rfl, hb⟩
  have P6 := Lib.hid (P4.out.below hb)
  clear hb P4 hgx x0 x1 x2 x3 hgy y0 y1 y2 y3
  have P7 := Lib.hid (P6.out.addAt (boxS (.pointer a) 0) rfl)
  obtain ⟨hgx, x0, x1, x2, x3⟩ := cellsQ (P6.out.2.2 (w.heap.size, boxQ ⟨a, root, a, p, t.vals.length, c⟩) (by simp)).1
  obtain ⟨hgy, y0, y1, y2, y3⟩ := cellsD7 (P6.out.2.2 (w.heap.size + 1, boxD7 4 from_ i val) (by simp)).1
  simp only at x0 x1 x2 x3
  go_wp2_with fail
  refine (judge_no _ _ P7.out.1.1).mono ?_
  rintro e w5 ⟨rfl, hb⟩
  have P8 := Lib.hid (P7.out.below hb)
  clear hb P7 hgx x0 x1 x2 x3 hgy y0 y1 y2 y3
  go_wp2_with (refine wpList_store_one rfl (.tmp 4) (.tmp 126) rfl (w.heap.size + 2) ⟨a, root, a, p, t.vals.length, c⟩ Qn.zero rfl rfl (P8.out.2.2 (w.heap.size + 2, boxQ Qn.zero) (by simp)).1 ?_; intro w9 hst; have HST := Lib.hid hst; clear hst)
  have PZ := (P8.out.drop (bs' := (w.heap.size + 2, boxQ Qn.zero) :: ((w.heap.size + 1, boxD7 4 from_ i val) :: (w.heap.size, boxQ ⟨a, root, a, p, t.vals.length, c⟩) :: bs)) (by intro q hq; simp only [List.mem_cons] at hq ⊢; rcases hq with h | h | h | h <;> simp [h])).store (fun q hq => by
    have hN1 := HN.out.1
    exact Nat.ne_of_lt (hN1 q (by simpa using hq))) HN.out.2.1 HST.out
  exact bodyPost_ret (results_one _ _ (w.heap.size + 2) ⟨a, root, a, p, t.vals.length, c⟩ true rfl rfl HST.out.2.2.2.2.1) rfl (sq_same (nb := []) (PZ.drop fun q hq => by simp at hq; simp [hq]) (fun q hq => by cases hq) HT.out HBD.out HLV.out)
end Go.Proofs.Ytbgepeokadmemaa.Q
