/-
  The walk of the statement OpBack. Not a statement of the seat.
-/
import Derived.Test.YtjgmncpapcmleaaDoorOpLives
namespace Go.Proofs.YtjgmncpapcmleaaDoor.Op
open Go.ChangeShapes Go.WideShapes Go.ChangeAt Go.RowKit Base Nu F Go.Lib Lst
theorem right_small {x : Opr} (h : rightO x = true) : x.ok := by
  unfold Opr.ok
  cases hr : x.rd
  · have := right_w h hr; omega
  · have := right_r h hr; omega
theorem textO_len (x : Opr) (hx : x.ok) : (textO x).length ≤ 100 := by
  have h1 := itoa_len hx.1.1 hx.1.2
  have h2 := itoa_len hx.2.1.1 hx.2.1.2
  have h3 := itoa_len hx.2.2.1 hx.2.2.2
  unfold textO
  split
  · split
    · split <;> simp <;> omega
    · simp; omega
  · simp
theorem whyO_yes {x : Opr} (h : rightO x = true) : whyO x = 0 := by unfold whyO; rw [h]; rfl
theorem whyO_no {x : Opr} (h : rightO x = false) : whyO x = 1 := by unfold whyO; rw [h]; rfl
theorem rd_as {s : ByteArray} {x : Opr} {e : Int} (h : readO s.data.toList = (x, e)) (hs : s.size ≤ 9223372036854775807) (w : World) : Calls Tryd.prog 8 #[.string s] w fun e' w' => e' = .returned (.tuple #[.agg #[.bool x.rd, .int .i64 x.k, .int .i64 x.t, .int .i64 x.n], .int .i64 e]) ∧ Below w.heap.size w w' := by
  have hh := read2_any s hs w
  unfold RdPost at hh
  rwa [h] at hh
theorem eqr (x : Opr) (w : World) : (binOp .eql 23 (.agg #[.bool x.rd, .int .i64 x.k, .int .i64 x.t, .int .i64 x.n]) (.agg #[.bool x.rd, .int .i64 x.k, .int .i64 x.t, .int .i64 x.n])).run Tryd.prog w = .ok (.bool true) w := by rw [eq_opr x x w, Opr.beq_self]
theorem ner (x : Opr) (w : World) : (binOp .neq 23 (.agg #[.bool x.rd, .int .i64 x.k, .int .i64 x.t, .int .i64 x.n]) (.agg #[.bool x.rd, .int .i64 x.k, .int .i64 x.t, .int .i64 x.n])).run Tryd.prog w = .ok (.bool false) w := by rw [ne_opr x x w, Opr.beq_self]; rfl
set_option maxHeartbeats 4000000 in
set_option maxRecDepth 100000 in
theorem back_tt (o : Opr) (ho : o.ok) (s : ByteArray) (hs : s.size ≤ 9223372036854775807) (w : World) (hp : Pow w) (h1 : rightO o = true) (h2 : (readO s.data.toList).2 = 0) : Calls Tryd.prog 4 #[.agg #[.bool o.rd, .int .i64 o.k, .int .i64 o.t, .int .i64 o.n], .string s] w (TruePost w) := by
  have HPX : Hid (∀ X, Below w.heap.size w X → Pow X) := Lib.hid fun X hX => hp.below hX
  have HL : Hid (∀ X, Below w.heap.size w X → Calls Tryd.prog 7 #[] X (TruePost X)) := Lib.hid fun X hX => lives_any X (HPX.out X hX)
  have HRo := Lib.hid (rightP o 0 (whyO_yes h1))
  have HTo := Lib.hid (textP (textO o) o ho rfl)
  have HRt := Lib.hid (rd_as (s := ⟨(textO o).toArray⟩) (x := o) (e := 0) (read_text h1) (by show (textO o).toArray.size ≤ _; have := textO_len o ho; simp; omega))
  have qn := ner o
  have qn0 : ((0 : Int) != 0) = false := rfl
  obtain ⟨ry, ty⟩ := text_read h2
  have hrd : readO s.data.toList = ((readO s.data.toList).1, 0) := by rw [← h2]
  generalize (readO s.data.toList).1 = y at ry ty hrd
  have HRs := Lib.hid (rd_as hrd hs)
  have HRy := Lib.hid (rightP y 0 (whyO_yes ry))
  have HTy : Hid (∀ X, Pow X → Calls Tryd.prog 14 #[.agg #[.bool y.rd, .int .i64 y.k, .int .i64 y.t, .int .i64 y.n]] X fun e w' => e = .returned (.string s) ∧ Below X.heap.size X w') := Lib.hid fun X hX => by
    have := textP s.data.toList y (right_small ry) ty X hX
    exact this
  clear hrd ry ty
  have qs : (s.toList == s.toList) = true := by simp
  have HX : Hid (∀ X, Below (w.alloc (boxO o)).heap.size (w.alloc (boxO o)) X → X.heap[w.heap.size]? = some (boxO o) ∧ Below w.heap.size w X) := Lib.hid fun X hX => ⟨(hX.block _ (by simp)).trans (heap_alloc_at w (boxO o) _ rfl), ((Below.refl _ _).alloc (Nat.le_refl _) _).trans (hX.mono (by simp))⟩
  clear hp h1 h2 hs ho
  go_enter Tryd.func4, Tryd.ntmps4
  go_wp2_with fail
  refine (HL.out _ ((Below.refl _ _).alloc (Nat.le_refl _) _)).mono ?_
  rintro e w1 ⟨rfl, hb⟩
  have HB1 := Lib.hid hb
  clear hb HL
  obtain ⟨x1, _⟩ := HX.out w1 HB1.out
  obtain ⟨_, ⟨a0, a1, a2, a3⟩, _⟩ := cellsO x1
  clear x1
  go_wp2_with fail
  refine (HRo.out _).mono ?_
  rintro e w2 ⟨rfl, hb⟩
  have HB2 := Lib.hid (HB1.out.trans (hb.mono HB1.out.size))
  clear hb HB1 a0 a1 a2 a3 HRo
  obtain ⟨x1, _⟩ := HX.out w2 HB2.out
  obtain ⟨_, ⟨a0, a1, a2, a3⟩, _⟩ := cellsO x1
  clear x1
  go_wp2_with fail
  refine (HTo.out _ (HPX.out _ (HX.out _ HB2.out).2)).mono ?_
  rintro e w3 ⟨rfl, hb⟩
  have HB3 := Lib.hid (HB2.out.trans (hb.mono HB2.out.size))
  clear hb a0 a1 a2 a3 HTo
  go_wp2_with fail
  refine (HRt.out _).mono ?_
  rintro e w4 ⟨rfl, hb⟩
  have HB4 := Lib.hid (HB3.out.trans (hb.mono HB3.out.size))
  clear hb HRt HB3
  obtain ⟨x1, _⟩ := HX.out w4 HB4.out
  obtain ⟨_, ⟨a0, a1, a2, a3⟩, _⟩ := cellsO x1
  clear x1
  go_wp2_with fail
  refine (HRs.out _).mono ?_
  rintro e w5 ⟨rfl, hb⟩
  have HB5 := Lib.hid (HB4.out.trans ((bel1 hb).mono HB4.out.size))
  clear hb HRs HB4 HB2 a0 a1 a2 a3
  go_wp2_with fail
  refine (HRy.out _).mono ?_
  rintro e w6 ⟨rfl, hb⟩
  obtain ⟨_, ⟨a0, a1, a2, a3⟩, _⟩ := cellsO ((hb.block w5.heap.size (by simp)).trans (heap_alloc_at w5 (boxO y) _ rfl))
  have HB6 := Lib.hid (HB5.out.trans ((bel1 hb).mono HB5.out.size))
  clear hb HRy HB5
  go_wp2_with fail
  refine (HTy.out _ (HPX.out _ (HX.out _ HB6.out).2)).mono ?_
  rintro e w7 ⟨rfl, hb⟩
  have HB7 := Lib.hid (HB6.out.trans (hb.mono HB6.out.size))
  clear hb HTy HB6 a0 a1 a2 a3
  go_wp2
  go_ret
  exact ⟨by first | rfl | (simp [qs]), (HX.out _ HB7.out).2⟩
set_option maxHeartbeats 4000000 in
set_option maxRecDepth 100000 in
theorem back_tf (o : Opr) (ho : o.ok) (s : ByteArray) (hs : s.size ≤ 9223372036854775807) (w : World) (hp : Pow w) (h1 : rightO o = true) (h2 : (readO s.data.toList).2 ≠ 0) : Calls Tryd.prog 4 #[.agg #[.bool o.rd, .int .i64 o.k, .int .i64 o.t, .int .i64 o.n], .string s] w (TruePost w) := by
  have HPX : Hid (∀ X, Below w.heap.size w X → Pow X) := Lib.hid fun X hX => hp.below hX
  have HL : Hid (∀ X, Below w.heap.size w X → Calls Tryd.prog 7 #[] X (TruePost X)) := Lib.hid fun X hX => lives_any X (HPX.out X hX)
  have HRo := Lib.hid (rightP o 0 (whyO_yes h1))
  have HTo := Lib.hid (textP (textO o) o ho rfl)
  have HRt := Lib.hid (rd_as (s := ⟨(textO o).toArray⟩) (x := o) (e := 0) (read_text h1) (by show (textO o).toArray.size ≤ _; have := textO_len o ho; simp; omega))
  have qn := ner o
  have qn0 : ((0 : Int) != 0) = false := rfl
  have hz := read_none h2
  have hrd : readO s.data.toList = (Opr.zero, (readO s.data.toList).2) := by rw [← hz]
  generalize (readO s.data.toList).2 = e2 at h2 hrd
  have HRs := Lib.hid (rd_as hrd hs)
  have qe : (e2 != 0) = true := by rw [bne_iff_ne]; exact h2
  have qe2 : (e2 == 0) = false := by rw [beq_eq_false_iff_ne]; exact h2
  have qz := eqr Opr.zero
  simp only [Opr.zero] at qz HRs
  clear hrd hz
  have HX : Hid (∀ X, Below (w.alloc (boxO o)).heap.size (w.alloc (boxO o)) X → X.heap[w.heap.size]? = some (boxO o) ∧ Below w.heap.size w X) := Lib.hid fun X hX => ⟨(hX.block _ (by simp)).trans (heap_alloc_at w (boxO o) _ rfl), ((Below.refl _ _).alloc (Nat.le_refl _) _).trans (hX.mono (by simp))⟩
  clear hp h1 h2 hs ho
  go_enter Tryd.func4, Tryd.ntmps4
  go_wp2_with fail
  refine (HL.out _ ((Below.refl _ _).alloc (Nat.le_refl _) _)).mono ?_
  rintro e w1 ⟨rfl, hb⟩
  have HB1 := Lib.hid hb
  clear hb HL
  obtain ⟨x1, _⟩ := HX.out w1 HB1.out
  obtain ⟨_, ⟨a0, a1, a2, a3⟩, _⟩ := cellsO x1
  clear x1
  go_wp2_with fail
  refine (HRo.out _).mono ?_
  rintro e w2 ⟨rfl, hb⟩
  have HB2 := Lib.hid (HB1.out.trans (hb.mono HB1.out.size))
  clear hb HB1 a0 a1 a2 a3 HRo
  obtain ⟨x1, _⟩ := HX.out w2 HB2.out
  obtain ⟨_, ⟨a0, a1, a2, a3⟩, _⟩ := cellsO x1
  clear x1
  go_wp2_with fail
  refine (HTo.out _ (HPX.out _ (HX.out _ HB2.out).2)).mono ?_
  rintro e w3 ⟨rfl, hb⟩
  have HB3 := Lib.hid (HB2.out.trans (hb.mono HB2.out.size))
  clear hb a0 a1 a2 a3 HTo
  go_wp2_with fail
  refine (HRt.out _).mono ?_
  rintro e w4 ⟨rfl, hb⟩
  have HB4 := Lib.hid (HB3.out.trans (hb.mono HB3.out.size))
  clear hb HRt HB3
  obtain ⟨x1, _⟩ := HX.out w4 HB4.out
  obtain ⟨_, ⟨a0, a1, a2, a3⟩, _⟩ := cellsO x1
  clear x1
  go_wp2_with fail
  refine (HRs.out _).mono ?_
  rintro e w5 ⟨rfl, hb⟩
  have HB5 := Lib.hid (HB4.out.trans ((bel1 hb).mono HB4.out.size))
  clear hb HRs HB4 HB2 a0 a1 a2 a3
  go_wp2
  go_ret
  exact ⟨rfl, (HX.out _ (HB5.out.alloc HB5.out.size _)).2⟩
set_option maxHeartbeats 4000000 in
set_option maxRecDepth 100000 in
theorem back_ft (o : Opr) (s : ByteArray) (hs : s.size ≤ 9223372036854775807) (w : World) (hp : Pow w) (h1 : rightO o = false) (h2 : (readO s.data.toList).2 = 0) : Calls Tryd.prog 4 #[.agg #[.bool o.rd, .int .i64 o.k, .int .i64 o.t, .int .i64 o.n], .string s] w (TruePost w) := by
  have HPX : Hid (∀ X, Below w.heap.size w X → Pow X) := Lib.hid fun X hX => hp.below hX
  have HL : Hid (∀ X, Below w.heap.size w X → Calls Tryd.prog 7 #[] X (TruePost X)) := Lib.hid fun X hX => lives_any X (HPX.out X hX)
  have HRo := Lib.hid (rightP o 1 (whyO_no h1))
  obtain ⟨ry, ty⟩ := text_read h2
  have hrd : readO s.data.toList = ((readO s.data.toList).1, 0) := by rw [← h2]
  generalize (readO s.data.toList).1 = y at ry ty hrd
  have HRs := Lib.hid (rd_as hrd hs)
  have HRy := Lib.hid (rightP y 0 (whyO_yes ry))
  have HTy : Hid (∀ X, Pow X → Calls Tryd.prog 14 #[.agg #[.bool y.rd, .int .i64 y.k, .int .i64 y.t, .int .i64 y.n]] X fun e w' => e = .returned (.string s) ∧ Below X.heap.size X w') := Lib.hid fun X hX => by
    have := textP s.data.toList y (right_small ry) ty X hX
    exact this
  clear hrd ry ty
  have qs : (s.toList == s.toList) = true := by simp
  have HX : Hid (∀ X, Below (w.alloc (boxO o)).heap.size (w.alloc (boxO o)) X → X.heap[w.heap.size]? = some (boxO o) ∧ Below w.heap.size w X) := Lib.hid fun X hX => ⟨(hX.block _ (by simp)).trans (heap_alloc_at w (boxO o) _ rfl), ((Below.refl _ _).alloc (Nat.le_refl _) _).trans (hX.mono (by simp))⟩
  clear hp h1 h2 hs 
  go_enter Tryd.func4, Tryd.ntmps4
  go_wp2_with fail
  refine (HL.out _ ((Below.refl _ _).alloc (Nat.le_refl _) _)).mono ?_
  rintro e w1 ⟨rfl, hb⟩
  have HB1 := Lib.hid hb
  clear hb HL
  obtain ⟨x1, _⟩ := HX.out w1 HB1.out
  obtain ⟨_, ⟨a0, a1, a2, a3⟩, _⟩ := cellsO x1
  clear x1
  go_wp2_with fail
  refine (HRo.out _).mono ?_
  rintro e w2 ⟨rfl, hb⟩
  have HB2 := Lib.hid (HB1.out.trans (hb.mono HB1.out.size))
  clear hb HB1 a0 a1 a2 a3 HRo
  go_wp2_with fail
  refine (HRs.out _).mono ?_
  rintro e w5 ⟨rfl, hb⟩
  have HB5 := Lib.hid (HB2.out.trans (hb.mono HB2.out.size))
  clear hb HRs HB2
  go_wp2_with fail
  refine (HRy.out _).mono ?_
  rintro e w6 ⟨rfl, hb⟩
  obtain ⟨_, ⟨a0, a1, a2, a3⟩, _⟩ := cellsO ((hb.block w5.heap.size (by simp)).trans (heap_alloc_at w5 (boxO y) _ rfl))
  have HB6 := Lib.hid (HB5.out.trans ((bel1 hb).mono HB5.out.size))
  clear hb HRy HB5
  go_wp2_with fail
  refine (HTy.out _ (HPX.out _ (HX.out _ HB6.out).2)).mono ?_
  rintro e w7 ⟨rfl, hb⟩
  have HB7 := Lib.hid (HB6.out.trans (hb.mono HB6.out.size))
  clear hb HTy HB6 a0 a1 a2 a3
  go_wp2
  go_ret
  exact ⟨by first | rfl | (simp [qs]), (HX.out _ HB7.out).2⟩
set_option maxHeartbeats 4000000 in
set_option maxRecDepth 100000 in
theorem back_ff (o : Opr) (s : ByteArray) (hs : s.size ≤ 9223372036854775807) (w : World) (hp : Pow w) (h1 : rightO o = false) (h2 : (readO s.data.toList).2 ≠ 0) : Calls Tryd.prog 4 #[.agg #[.bool o.rd, .int .i64 o.k, .int .i64 o.t, .int .i64 o.n], .string s] w (TruePost w) := by
  have HPX : Hid (∀ X, Below w.heap.size w X → Pow X) := Lib.hid fun X hX => hp.below hX
  have HL : Hid (∀ X, Below w.heap.size w X → Calls Tryd.prog 7 #[] X (TruePost X)) := Lib.hid fun X hX => lives_any X (HPX.out X hX)
  have HRo := Lib.hid (rightP o 1 (whyO_no h1))
  have hz := read_none h2
  have hrd : readO s.data.toList = (Opr.zero, (readO s.data.toList).2) := by rw [← hz]
  generalize (readO s.data.toList).2 = e2 at h2 hrd
  have HRs := Lib.hid (rd_as hrd hs)
  have qe : (e2 != 0) = true := by rw [bne_iff_ne]; exact h2
  have qe2 : (e2 == 0) = false := by rw [beq_eq_false_iff_ne]; exact h2
  have qz := eqr Opr.zero
  simp only [Opr.zero] at qz HRs
  clear hrd hz
  have HX : Hid (∀ X, Below (w.alloc (boxO o)).heap.size (w.alloc (boxO o)) X → X.heap[w.heap.size]? = some (boxO o) ∧ Below w.heap.size w X) := Lib.hid fun X hX => ⟨(hX.block _ (by simp)).trans (heap_alloc_at w (boxO o) _ rfl), ((Below.refl _ _).alloc (Nat.le_refl _) _).trans (hX.mono (by simp))⟩
  clear hp h1 h2 hs 
  go_enter Tryd.func4, Tryd.ntmps4
  go_wp2_with fail
  refine (HL.out _ ((Below.refl _ _).alloc (Nat.le_refl _) _)).mono ?_
  rintro e w1 ⟨rfl, hb⟩
  have HB1 := Lib.hid hb
  clear hb HL
  obtain ⟨x1, _⟩ := HX.out w1 HB1.out
  obtain ⟨_, ⟨a0, a1, a2, a3⟩, _⟩ := cellsO x1
  clear x1
  go_wp2_with fail
  refine (HRo.out _).mono ?_
  rintro e w2 ⟨rfl, hb⟩
  have HB2 := Lib.hid (HB1.out.trans (hb.mono HB1.out.size))
  clear hb HB1 a0 a1 a2 a3 HRo
  go_wp2_with fail
  refine (HRs.out _).mono ?_
  rintro e w5 ⟨rfl, hb⟩
  have HB5 := Lib.hid (HB2.out.trans (hb.mono HB2.out.size))
  clear hb HRs HB2
  go_wp2
  go_ret
  exact ⟨rfl, (HX.out _ (HB5.out.alloc HB5.out.size _)).2⟩
theorem back_any (o : Opr) (ho : o.ok) (s : ByteArray) (hs : s.size ≤ 9223372036854775807) (w : World) (hp : Pow w) : Calls Tryd.prog 4 #[.agg #[.bool o.rd, .int .i64 o.k, .int .i64 o.t, .int .i64 o.n], .string s] w (TruePost w) := by
  cases h1 : rightO o
  · by_cases h2 : (readO s.data.toList).2 = 0
    · exact back_ft o s hs w hp h1 h2
    · exact back_ff o s hs w hp h1 h2
  · by_cases h2 : (readO s.data.toList).2 = 0
    · exact back_tt o ho s hs w hp h1 h2
    · exact back_tf o ho s hs w hp h1 h2
end Go.Proofs.YtjgmncpapcmleaaDoor.Op
