/-
  The walk of the statement OpReads. Not a statement of the seat.
-/
import Derived.Test.YtjgmncpapcmleaaDoorOpBackW
import Derived.Test.YtjgmncpapcmleaaDoorOpRef5
namespace Go.Proofs.YtjgmncpapcmleaaDoor.Op
open Go.ChangeShapes Go.WideShapes Go.ChangeAt Go.RowKit Base Nu F Go.Lib Lst
theorem of_both (o : Opr) : ∃ a b c : Int, (∀ w, Calls Tryd.prog 12 #[.agg #[.bool o.rd, .int .i64 o.k, .int .i64 o.t, .int .i64 o.n]] w fun e w' => e = .returned (.agg #[.int .i64 a, .int .i64 b, .int .i64 c]) ∧ Below w.heap.size w w') ∧
    ∀ w, Calls Tryd.prog 13 #[.agg #[.bool o.rd, .int .i64 o.k, .int .i64 o.t, .int .i64 o.n]] w fun e w' => e = .returned (.agg #[.int .i64 a, .int .i64 b, .int .i64 c]) ∧ Below w.heap.size w w' := by
  obtain ⟨rd, k, t, n⟩ := o
  cases rd
  · exact ⟨0, 0, 0, of_w k t n, ofR_w k t n⟩
  · exact ⟨t, k, n, of_r k t n, ofR_r k t n⟩
theorem eqv (a b c : Int) (w : World) : (binOp .eql 32 (.agg #[.int .i64 a, .int .i64 b, .int .i64 c]) (.agg #[.int .i64 a, .int .i64 b, .int .i64 c])).run Tryd.prog w = .ok (.bool true) w := by
  have h := eq_ver ⟨a, b, c⟩ ⟨a, b, c⟩ w
  rw [Ver.beq_self] at h
  exact h
theorem reg_of {f : FuncId} {args : Array Value} {W : World} {v : Value} (h : ∀ X, Below W.heap.size W X → Calls Tryd.prog f args X fun e w' => e = .returned v ∧ Below X.heap.size X w') (d : Nat) (os : Array Obj) :
    Calls Tryd.prog f args (Go.Sort.grow (redrawn W d) os) fun e w'' => e = .returned v ∧ ∃ p : Regrown, w'' = Go.Sort.grow (redrawn W p.d) p.os := Calls.regrown_of (h _ (below_regrown W d os))
set_option maxHeartbeats 2000000 in
set_option maxRecDepth 100000 in
theorem reads_far_s (o : Opr) (s : ByteArray) (p1 p2 : Option Addr) (n m c1 c2 : Nat) (w : World) (hp : Pow w) (h1 : 1000 < s.size) : Calls Tryd.prog 3 #[.agg #[.bool o.rd, .int .i64 o.k, .int .i64 o.t, .int .i64 o.n], .string s, .slice p1 n c1, .slice p2 m c2] w (TruePost w) := by
  have HL : Hid (∀ X, Below w.heap.size w X → Calls Tryd.prog 7 #[] X (TruePost X)) := Lib.hid fun X hX => lives_any X (hp.below hX)
  clear hp
  go_enter Tryd.func3, Tryd.ntmps3
  go_wp2_with fail
  refine (HL.out _ ((Below.refl _ _).alloc (Nat.le_refl _) _)).mono ?_
  rintro e w1 ⟨rfl, hb⟩
  have HB := Lib.hid (bel1 hb)
  clear hb HL
  go_wp2
  go_ret
  exact ⟨rfl, HB.out⟩
set_option maxHeartbeats 2000000 in
set_option maxRecDepth 100000 in
theorem reads_far_a (o : Opr) (s : ByteArray) (p1 p2 : Option Addr) (n m c1 c2 : Nat) (w : World) (hp : Pow w) (h0 : s.size ≤ 1000) (h1 : 200 < n) : Calls Tryd.prog 3 #[.agg #[.bool o.rd, .int .i64 o.k, .int .i64 o.t, .int .i64 o.n], .string s, .slice p1 n c1, .slice p2 m c2] w (TruePost w) := by
  have HL : Hid (∀ X, Below w.heap.size w X → Calls Tryd.prog 7 #[] X (TruePost X)) := Lib.hid fun X hX => lives_any X (hp.below hX)
  clear hp
  go_enter Tryd.func3, Tryd.ntmps3
  go_wp2_with fail
  refine (HL.out _ ((Below.refl _ _).alloc (Nat.le_refl _) _)).mono ?_
  rintro e w1 ⟨rfl, hb⟩
  have HB := Lib.hid (bel1 hb)
  clear hb HL
  go_wp2
  go_ret
  exact ⟨rfl, HB.out⟩
set_option maxHeartbeats 2000000 in
set_option maxRecDepth 100000 in
theorem reads_far_b (o : Opr) (s : ByteArray) (p1 p2 : Option Addr) (n m c1 c2 : Nat) (w : World) (hp : Pow w) (h0 : s.size ≤ 1000) (h0b : n ≤ 200) (h1 : 200 < m) : Calls Tryd.prog 3 #[.agg #[.bool o.rd, .int .i64 o.k, .int .i64 o.t, .int .i64 o.n], .string s, .slice p1 n c1, .slice p2 m c2] w (TruePost w) := by
  have HL : Hid (∀ X, Below w.heap.size w X → Calls Tryd.prog 7 #[] X (TruePost X)) := Lib.hid fun X hX => lives_any X (hp.below hX)
  clear hp
  go_enter Tryd.func3, Tryd.ntmps3
  go_wp2_with fail
  refine (HL.out _ ((Below.refl _ _).alloc (Nat.le_refl _) _)).mono ?_
  rintro e w1 ⟨rfl, hb⟩
  have HB := Lib.hid (bel1 hb)
  clear hb HL
  go_wp2
  go_ret
  exact ⟨rfl, HB.out⟩
set_option maxHeartbeats 8000000 in
set_option maxRecDepth 100000 in
theorem reads_near (o : Opr) (ho : o.ok) (s : ByteArray) (p1 p2 : Option Addr) (xs ys : List Opr) (c1 c2 : Nat) (w : World) (h1 : Oprs 0 w (.slice p1 xs.length c1) xs) (h2 : Oprs 0 w (.slice p2 ys.length c2) ys) (hp : Pow w) (hs : s.size ≤ 1000) (hx : xs.length ≤ 200) (hy : ys.length ≤ 200) :
    Calls Tryd.prog 3 #[.agg #[.bool o.rd, .int .i64 o.k, .int .i64 o.t, .int .i64 o.n], .string s, .slice p1 xs.length c1, .slice p2 ys.length c2] w (TruePost w) := by
  obtain ⟨oa, ob, oc, hO1, hO2⟩ := of_both o
  have HPX : Hid (∀ X, Below w.heap.size w X → Pow X) := Lib.hid fun X hX => hp.below hX
  have HL : Hid (∀ X, Below w.heap.size w X → Calls Tryd.prog 7 #[] X fun e w' => e = .returned (.bool true) ∧ Below X.heap.size X w') := Lib.hid fun X hX => lives_any X (HPX.out X hX)
  have HT1 : Hid (∀ X, Below w.heap.size w X → Calls Tryd.prog 14 #[.agg #[.bool o.rd, .int .i64 o.k, .int .i64 o.t, .int .i64 o.n]] X fun e w' => e = .returned (.string ⟨(textO o).toArray⟩) ∧ Below X.heap.size X w') := Lib.hid fun X hX => text2_any o ho X (HPX.out X hX)
  have HT2 : Hid (∀ X, Calls Tryd.prog 15 #[.agg #[.bool o.rd, .int .i64 o.k, .int .i64 o.t, .int .i64 o.n]] X fun e w' => e = .returned (.string ⟨(textO o).toArray⟩) ∧ Below X.heap.size X w') := Lib.hid fun X => text2R_any o ho X
  have HS1 : Hid (∀ X, Below w.heap.size w X → Calls Tryd.prog 16 #[.slice p1 xs.length c1, .slice p2 ys.length c2] X fun e w' => e = .returned (.bool (sameO xs ys)) ∧ Below X.heap.size X w') := Lib.hid fun X hX => sameP xs ys _ rfl X _ _ 0 0 (h1.below hX) (h2.below hX)
  have HS2 : Hid (∀ X, Below w.heap.size w X → Calls Tryd.prog 17 #[.slice p1 xs.length c1, .slice p2 ys.length c2] X fun e w' => e = .returned (.bool (sameO xs ys)) ∧ Below X.heap.size X w') := Lib.hid fun X hX => (sameR_any X _ _ xs ys 0 0 (h1.below hX) (h2.below hX)).mono fun e w' ⟨a1, q, a2⟩ => ⟨a1, by rw [a2]; exact below_drewN (Below.refl _ _) q⟩
  have HRo := Lib.hid (fun X => right_any o X)
  have HRr := Lib.hid (fun X => rightR_any o X)
  have hwy : whyO o = if rightO o then 0 else 1 := rfl
  rw [hwy] at HRo
  have HO1 := Lib.hid hO1
  have HO2 := Lib.hid hO2
  have HD1 : Hid (∀ X, Calls Tryd.prog 8 #[.string s] X (RdPost s.data.toList X)) := Lib.hid fun X => read2_any s (by omega) X
  have HD2 : Hid (∀ X, Calls Tryd.prog 9 #[.string s] X (RdPost s.data.toList X)) := Lib.hid fun X => readRef_any s hs X
  unfold RdPost at HD1 HD2
  clear hO1 hO2 hwy h1 h2 hp ho
  generalize readO s.data.toList = q at HD1 HD2
  obtain ⟨y, ey⟩ := q
  simp only at HD1 HD2
  generalize sameO xs ys = sr at HS1 HS2
  generalize (⟨(textO o).toArray⟩ : ByteArray) = tx at HT1 HT2
  generalize xs.length = n at *
  generalize ys.length = m at *
  have e1 : (ey == ey) = true := by simp
  have e2 : (tx.toList == tx.toList) = true := by simp
  have e3 : (sr == sr) = true := by simp
  have e4 := eqr y
  have e5 := eqv oa ob oc
  have HZ : Hid (∀ (r : Bool), rightO o = r → (if rightO o then (0 : Int) else 1) = if r then 0 else 1) := Lib.hid fun r h => by rw [h]
  cases hr : rightO o
  all_goals
    rw [hr] at HRr
    have hz := HZ.out _ hr
    rw [hz] at HRo
    simp only [if_true, if_false, Bool.false_eq_true] at HRo
    clear hz HZ hr
    go_enter Tryd.func3, Tryd.ntmps3
    go_wp2_with fail
    refine (HD1.out _).mono ?_
    rintro e w1 ⟨rfl, hb1⟩
    go_wp2_with fail
    refine (HD2.out _).mono ?_
    rintro e w2 ⟨rfl, hb2⟩
    have xo := (hb1.block w.heap.size (by simp)).trans (heap_alloc_at w (boxO o) _ rfl)
    have xo2 := (((bel1 hb2).block w.heap.size (heap_lt xo))).trans xo
    have xy := (hb2.block w1.heap.size (by simp)).trans (heap_alloc_at w1 (boxO y) _ rfl)
    have hbb := (bel1 hb1).trans ((bel1 hb2).mono (bel1 hb1).size)
    have X2 := Lib.hid (And.intro xo2 (And.intro xy hbb))
    clear xo xo2 xy hbb hb1 hb2 HD1 HD2
    obtain ⟨_, ⟨a0, a1, a2, a3⟩, _⟩ := cellsO X2.out.1
    go_wp2_with fail
    refine (HRr.out _).mono ?_
    rintro e w3 ⟨rfl, hb3⟩
    have x1 := ((bel1 hb3).block w.heap.size (heap_lt X2.out.1)).trans X2.out.1
    have x2 := ((bel1 hb3).block w1.heap.size (heap_lt X2.out.2.1)).trans X2.out.2.1
    have x3 := (hb3.block w2.heap.size (by simp)).trans (heap_alloc_at w2 (boxO y) _ rfl)
    have HB3 := Lib.hid (X2.out.2.2.trans ((bel1 hb3).mono X2.out.2.2.size))
    clear hb3 a0 a1 a2 a3 X2
    obtain ⟨_, ⟨a0, a1, a2, a3⟩, _⟩ := cellsO x1
    obtain ⟨_, ⟨b0, b1, b2, b3⟩, _⟩ := cellsO x2
    obtain ⟨_, ⟨d0, d1, d2, d3⟩, _⟩ := cellsO x3
    clear x1 x2 x3
    have ka0 := cell_regrown a0
    have ka1 := cell_regrown a1
    have ka2 := cell_regrown a2
    have ka3 := cell_regrown a3
    have kb0 := cell_regrown b0
    have kb1 := cell_regrown b1
    have kb2 := cell_regrown b2
    have kb3 := cell_regrown b3
    have kd0 := cell_regrown d0
    have kd1 := cell_regrown d1
    have kd2 := cell_regrown d2
    have kd3 := cell_regrown d3
    clear a0 a1 a2 a3 b0 b1 b2 b3 d0 d1 d2 d3 HRr
    have Q1 := Lib.hid (reg_of (W := w3) fun X _ => HRo.out X)
    have Q2 := Lib.hid (reg_of (W := w3) fun X _ => HO1.out X)
    have Q3 := Lib.hid (reg_of (W := w3) fun X _ => HO2.out X)
    have Q4 := Lib.hid (reg_of (W := w3) fun X hX => HT1.out X (HB3.out.trans (hX.mono HB3.out.size)))
    have Q5 := Lib.hid (reg_of (W := w3) fun X _ => HT2.out X)
    have Q6 := Lib.hid (reg_of (W := w3) fun X hX => HS1.out X (HB3.out.trans (hX.mono HB3.out.size)))
    have Q7 := Lib.hid (reg_of (W := w3) fun X hX => HS2.out X (HB3.out.trans (hX.mono HB3.out.size)))
    have Q8 := Lib.hid (reg_of (W := w3) fun X hX => HL.out X (HB3.out.trans (hX.mono HB3.out.size)))
    clear HRo HO1 HO2 HT1 HT2 HS1 HS2 HL HPX
    go_wp2_with fail
    refine wp_region_quiet_below (by kernel_rfl) (by kernel_rfl) ?_
    repeat (go_big_quiet_step (first | with_reducible exact Q1.out _ _ | with_reducible exact Q2.out _ _ | with_reducible exact Q3.out _ _ | with_reducible exact Q4.out _ _ | with_reducible exact Q5.out _ _ | with_reducible exact Q6.out _ _ | with_reducible exact Q7.out _ _ | with_reducible exact Q8.out _ _))
    refine wpQuiet_nil ?_
    intro _ hw'
    obtain ⟨⟨dq, osq⟩, hw''⟩ := hw'
    subst hw''
    have HB4 := Lib.hid (HB3.out.trans ((below_regrown w3 dq osq).mono HB3.out.size))
    clear ka0 ka1 ka2 ka3 kb0 kb1 kb2 kb3 kd0 kd1 kd2 kd3 Q1 Q2 Q3 Q4 Q5 Q6 Q7 Q8 e4 e5 HB3
    go_wp2
    go_ret
    exact ⟨by first | rfl | simp, HB4.out⟩
theorem reads_any (o : Opr) (ho : o.ok) (s : ByteArray) (v u : Value) (xs ys : List Opr) (w : World) (h1 : Oprs 0 w v xs) (h2 : Oprs 0 w u ys) (hp : Pow w) : Calls Tryd.prog 3 #[.agg #[.bool o.rd, .int .i64 o.k, .int .i64 o.t, .int .i64 o.n], .string s, v, u] w (TruePost w) := by
  obtain ⟨p1, c1, rfl, _⟩ := h1.open_
  obtain ⟨p2, c2, rfl, _⟩ := h2.open_
  by_cases g1 : s.size ≤ 1000
  case neg => exact reads_far_s o s p1 p2 _ _ c1 c2 w hp (by omega)
  by_cases g2 : xs.length ≤ 200
  case neg => exact reads_far_a o s p1 p2 _ _ c1 c2 w hp g1 (by omega)
  by_cases g3 : ys.length ≤ 200
  case neg => exact reads_far_b o s p1 p2 _ _ c1 c2 w hp g1 g2 (by omega)
  exact reads_near o ho s p1 p2 xs ys c1 c2 w h1 h2 hp g1 g2 g3
end Go.Proofs.YtjgmncpapcmleaaDoor.Op
