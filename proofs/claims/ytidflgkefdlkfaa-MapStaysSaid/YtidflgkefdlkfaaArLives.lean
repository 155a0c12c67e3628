/-
  The answers that the document gives of arenas are there. Not a statement of the seat.
-/
import Derived.Test.YtidflgkefdlkfaaAr4
import Derived.Test.YtidflgkefdlkfaaQCel
namespace Go.Proofs.Ytidflgkefdlkfaa.F
open Go.ChangeShapes Go.WideShapes Go.ChangeAt Go.RowKit Base
/-- An arena that the call made itself. -/
def AI (w0 w : World) (pv : Value) (o : Option Nat) (room : Nat) (zs : List Cel) : Prop := ArV w pv o room zs ∧ Below w0.heap.size w0 w ∧ ∀ g, VF pv o g → w0.heap.size ≤ g
theorem AI.below {w0 w w' : World} {pv : Value} {o : Option Nat} {room : Nat} {zs : List Cel} (h : AI w0 w pv o room zs) (hb : Below w.heap.size w w') : AI w0 w' pv o room zs :=
  ⟨h.1.below hb, h.2.1.trans (hb.mono h.2.1.size), h.2.2⟩
theorem AI.step {w0 w w' : World} {pv v : Value} {o : Option Nat} {room : Nat} {zs zs' : List Cel} {e : Ending} (h : AI w0 w pv o room zs) (hs : ArStep pv o room zs' v w e w') :
    e = .returned v ∧ ∃ o', AI w0 w' pv o' room zs' ∧ w.heap.size ≤ w'.heap.size ∧ Fr (VF pv o) w w' ∧ ∀ g, g < w.heap.size → ¬ VF pv o g → w'.heap[g]? = w.heap[g]? ∧ ¬ VF pv o' g := by
  obtain ⟨he, o', h1, h2, h3⟩ := hs
  refine ⟨he, o', ⟨h1, ?_, fun g hg => ?_⟩, h3.size, h3, fun g hg hn => ⟨h3.block hg hn, fun k => hn (h2.vf g hg k)⟩⟩
  · have := (Fr.of_below (F := VF pv o) h.2.1).trans h3 (fun g _ k => k)
    exact this.below h.2.2 (Nat.le_refl _)
  · rcases Nat.lt_or_ge g w.heap.size with hl | hl
    · exact h.2.2 g (h2.vf g hl hg)
    · exact Nat.le_trans h.2.1.size hl
theorem AI.new {w0 w : World} {b room : Nat} (h : ArAt w b none room []) (hb : Below w0.heap.size w0 w) (hg : w0.heap.size ≤ b) : AI w0 w (.pointer (some ⟨b, 0, none⟩)) none room [] :=
  ⟨ArV.of h, hb, fun g k => by
    rcases k with k | k
    · injection k with k; injection k with k; injection k with k; exact k ▸ hg
    · cases k⟩
/-- A cell's box. -/
def Box (w : World) (g : Nat) (c : Cel) : Prop := w.heap[g]? = some (.cells #[.int .i64 c.l, .int .i64 c.r, .int .i64 c.k, .int .i64 c.v, .int .i64 c.s, .int .i64 c.h] 28)
theorem Box.cells {w : World} {g : Nat} {c : Cel} (h : Box w g c) : g < w.heap.size ∧ (w.cell? ⟨g, 0, none⟩ = some (.int .i64 c.l) ∧ w.cell? ⟨g, 1, none⟩ = some (.int .i64 c.r) ∧ w.cell? ⟨g, 2, none⟩ = some (.int .i64 c.k) ∧ w.cell? ⟨g, 3, none⟩ = some (.int .i64 c.v) ∧ w.cell? ⟨g, 4, none⟩ = some (.int .i64 c.s) ∧ w.cell? ⟨g, 5, none⟩ = some (.int .i64 c.h)) := by
  unfold Box at h
  exact ⟨heap_lt h, by simp [World.cell?, h]⟩
theorem Box.below {w w' : World} {g : Nat} {c : Cel} (h : Box w g c) (hb : Below w.heap.size w w') : Box w' g c := (hb.block g (heap_lt h)).trans h
def lc : Cel := ⟨0, 0, 7, -8, 1099511627776, -1⟩
theorem lc_ok : lc.ok := by unfold Cel.ok lc; simp
/-- An arena that the call made itself, and boxes beside it. -/
def AB (w0 w : World) (pv : Value) (o : Option Nat) (room : Nat) (zs : List Cel) (bs : List (Nat × Cel)) : Prop := AI w0 w pv o room zs ∧ ∀ p ∈ bs, Box w p.1 p.2 ∧ ¬ VF pv o p.1
theorem AB.below {w0 w w' : World} {pv : Value} {o : Option Nat} {room : Nat} {zs : List Cel} {bs : List (Nat × Cel)} (h : AB w0 w pv o room zs bs) (hb : Below w.heap.size w w') : AB w0 w' pv o room zs bs :=
  ⟨h.1.below hb, fun p hp => ⟨(h.2 p hp).1.below hb, (h.2 p hp).2⟩⟩
theorem AB.step {w0 w w' : World} {pv v : Value} {o : Option Nat} {room : Nat} {zs zs' : List Cel} {e : Ending} {bs : List (Nat × Cel)} (h : AB w0 w pv o room zs bs) (hs : ArStep pv o room zs' v w e w') :
    e = .returned v ∧ ∃ o', Hid (AB w0 w' pv o' room zs' bs) := by
  obtain ⟨he, o', h1, _, _, h4⟩ := h.1.step hs
  refine ⟨he, o', Lib.hid ⟨h1, fun p hp => ?_⟩⟩
  have := h4 p.1 (heap_lt (h.2 p hp).1) (h.2 p hp).2
  exact ⟨this.1.trans (h.2 p hp).1, this.2⟩
theorem AB.add {w0 w : World} {pv : Value} {o : Option Nat} {room : Nat} {zs : List Cel} {bs : List (Nat × Cel)} (h : AB w0 w pv o room zs bs) (c : Cel) : AB w0 (w.alloc (.cells #[.int .i64 c.l, .int .i64 c.r, .int .i64 c.k, .int .i64 c.v, .int .i64 c.s, .int .i64 c.h] 28)) pv o room zs ((w.heap.size, c) :: bs) := by
  have hb : Below w.heap.size w (w.alloc (.cells #[.int .i64 c.l, .int .i64 c.r, .int .i64 c.k, .int .i64 c.v, .int .i64 c.s, .int .i64 c.h] 28)) := (Below.refl _ _).alloc (Nat.le_refl _) _
  have h2 := h.below hb
  refine ⟨h2.1, fun p hp => ?_⟩
  rcases List.mem_cons.1 hp with rfl | hp
  · exact ⟨heap_alloc_at _ _ _ rfl, fun k => Nat.lt_irrefl _ (h.1.1.lt _ k)⟩
  · exact h2.2 p hp
theorem AB.box {w0 w : World} {pv : Value} {o : Option Nat} {room : Nat} {zs : List Cel} {bs : List (Nat × Cel)} (h : AB w0 w pv o room zs bs) {g : Nat} {c : Cel} (hp : (g, c) ∈ bs) : Box w g c := (h.2 (g, c) hp).1
theorem ArStep.nil_below {o : Option Nat} {room : Nat} {zs : List Cel} {v : Value} {w w' : World} {e : Ending} (h : ArStep (.pointer none) o room zs v w e w') (ho : o = none) : e = .returned v ∧ Below w.heap.size w w' := by
  obtain ⟨he, o', _, _, h3⟩ := h
  subst ho
  refine ⟨he, h3.below (fun g hg => ?_) (Nat.le_refl _)⟩
  rcases hg with k | k <;> cases k
/-- What Get tells, the cell's fields typed out. -/
def GetX (x : Cel) (is : Bool) (w : World) (e : Ending) (w' : World) : Prop := e = .returned (.tuple #[.agg #[.int .i64 x.l, .int .i64 x.r, .int .i64 x.k, .int .i64 x.v, .int .i64 x.s, .int .i64 x.h], .bool is]) ∧ Below w.heap.size w w'
theorem arget_x {pv : Value} {o : Option Nat} {room : Nat} {zs : List Cel} (i : Int) (x : Cel) (is : Bool) (w : World) (h : ArV w pv o room zs) (hx : celAt zs i = x) (hi : decide (1 ≤ i ∧ i ≤ (zs.length : Int)) = is) : Calls Try.prog 13 #[pv, .int .i64 i] w (GetX x is w) := by
  have := arget_v i w h
  rw [hx, hi] at this
  exact this
set_option maxRecDepth 100000 in
set_option maxHeartbeats 4000000 in
theorem arlives (w : World) : Calls Try.prog 9 #[] w fun e w' => e = .returned (.bool true) ∧ Below w.heap.size w w' := by
  have E := Lib.hid (fun w => eq_cel lc lc w)
  go_enter Try.func9, Try.ntmps9
  go_wp2_with fail
  refine (arnew_any 1 w).mono ?_
  rintro e w1 ⟨rfl, hA, hb⟩
  have I1 : Hid (AB w (w1.alloc (.cells #[.int .i64 lc.l, .int .i64 lc.r, .int .i64 lc.k, .int .i64 lc.v, .int .i64 lc.s, .int .i64 lc.h] 28)) _ none 1 [] [(w1.heap.size, lc)]) := Lib.hid (AB.add (bs := []) ⟨AI.new hA hb (Nat.le_refl _), fun p hp => by cases hp⟩ lc)
  clear hA hb
  have p2 : putA 1 [] ⟨1, 0, 0, 0, 0, 0⟩ = ([], 0, 1) := by unfold putA fitC; simp
  go_wp2_with fail
  have H := arput_v (pv := .pointer (some ⟨w.heap.size, 0, none⟩)) (room := 1) (zs := []) ⟨1, 0, 0, 0, 0, 0⟩ _ (I1.out.below (by go_grown)).1.1 (by unfold Cel.ok; simp)
  rw [p2] at H
  refine H.mono ?_
  clear H p2
  intro e w2 hs
  obtain ⟨rfl, o2, I2⟩ := (I1.out.below (by go_grown)).step hs
  clear hs I1
  obtain ⟨_, c0, c1, c2, c3, c4, c5⟩ := (I2.out.box (List.mem_cons_self ..)).cells
  have p3 : putA 1 [] lc = ([lc], 1, 0) := by unfold putA fitC; simp [lc]
  go_wp2_with fail
  have H := arput_v (pv := .pointer (some ⟨w.heap.size, 0, none⟩)) (room := 1) (zs := []) lc _ (I2.out.below (by go_grown)).1.1 lc_ok
  rw [p3] at H
  refine H.mono ?_
  clear H p3
  intro e w3 hs
  obtain ⟨rfl, o3, I3⟩ := (I2.out.below (by go_grown)).step hs
  clear hs I2 c0 c1 c2 c3 c4 c5
  obtain ⟨_, c0, c1, c2, c3, c4, c5⟩ := (I3.out.box (List.mem_cons_self ..)).cells
  have p4 : putA 1 [lc] lc = ([lc], 0, 2) := by unfold putA fitC; simp [lc]
  go_wp2_with fail
  have H := arput_v (pv := .pointer (some ⟨w.heap.size, 0, none⟩)) (room := 1) (zs := [lc]) lc _ (I3.out.below (by go_grown)).1.1 lc_ok
  rw [p4] at H
  refine H.mono ?_
  clear H p4
  intro e w4 hs
  obtain ⟨rfl, o4, I4⟩ := (I3.out.below (by go_grown)).step hs
  clear hs I3 c0 c1 c2 c3 c4 c5
  have p5 : putA 1 [lc] ⟨0, 2, 0, 0, 0, 0⟩ = ([lc], 0, 1) := by unfold putA fitC; simp
  go_wp2_with fail
  have H := arput_v (pv := .pointer (some ⟨w.heap.size, 0, none⟩)) (room := 1) (zs := [lc]) ⟨0, 2, 0, 0, 0, 0⟩ _ (I4.out.below (by go_grown)).1.1 (by unfold Cel.ok; simp)
  rw [p5] at H
  refine H.mono ?_
  clear H p5
  intro e w5 hs
  obtain ⟨rfl, o5, I5⟩ := (I4.out.below (by go_grown)).step hs
  clear hs I4
  go_wp2_with fail
  refine (arget_x (pv := .pointer (some ⟨w.heap.size, 0, none⟩)) (room := 1) (zs := [lc]) 1 lc true _ (I5.out.below (by go_grown)).1.1 rfl rfl).mono ?_
  rintro e w6 ⟨rfl, hb⟩
  have I6 := Lib.hid (((I5.out.below (by go_grown)).below hb).add lc)
  clear hb I5
  go_wp2_with fail
  refine (arget_x (pv := .pointer (some ⟨w.heap.size, 0, none⟩)) (room := 1) (zs := [lc]) 2 Cel.zero false _ (I6.out.below (by go_grown)).1.1 rfl rfl).mono ?_
  rintro e w7 ⟨rfl, hb⟩
  have I7 := Lib.hid (((I6.out.below (by go_grown)).below hb).add Cel.zero)
  clear hb I6
  go_wp2_with fail
  refine (arget_x (pv := .pointer (some ⟨w.heap.size, 0, none⟩)) (room := 1) (zs := [lc]) 0 Cel.zero false _ (I7.out.below (by go_grown)).1.1 rfl rfl).mono ?_
  rintro e w8 ⟨rfl, hb⟩
  have I8 := Lib.hid (((I7.out.below (by go_grown)).below hb).add Cel.zero)
  clear hb I7
  go_wp2_with fail
  refine (arlen_v (pv := .pointer (some ⟨w.heap.size, 0, none⟩)) (room := 1) (zs := [lc]) (I8.out.below (by go_grown)).1.1).mono ?_
  rintro e w9 ⟨rfl, rfl⟩
  have p10 : cutA [lc] 2 = ([lc], false) := by unfold cutA; simp
  go_wp2_with fail
  have H := arcut_v (pv := .pointer (some ⟨w.heap.size, 0, none⟩)) (room := 1) (zs := [lc]) 2 _ (I8.out.below (by go_grown)).1.1
  rw [p10] at H
  refine H.mono ?_
  clear H p10
  intro e w10 hs
  obtain ⟨rfl, o10, I10⟩ := (I8.out.below (by go_grown)).step hs
  clear hs I8
  have p11 : cutA [lc] (-1) = ([lc], false) := by unfold cutA; simp
  go_wp2_with fail
  have H := arcut_v (pv := .pointer (some ⟨w.heap.size, 0, none⟩)) (room := 1) (zs := [lc]) (-1) _ (I10.out.below (by go_grown)).1.1
  rw [p11] at H
  refine H.mono ?_
  clear H p11
  intro e w11 hs
  obtain ⟨rfl, o11, I11⟩ := (I10.out.below (by go_grown)).step hs
  clear hs I10
  have p12 : cutA [lc] 0 = ([], true) := by unfold cutA; simp
  go_wp2_with fail
  have H := arcut_v (pv := .pointer (some ⟨w.heap.size, 0, none⟩)) (room := 1) (zs := [lc]) 0 _ (I11.out.below (by go_grown)).1.1
  rw [p12] at H
  refine H.mono ?_
  clear H p12
  intro e w12 hs
  obtain ⟨rfl, o12, I12⟩ := (I11.out.below (by go_grown)).step hs
  clear hs I11
  have p13 : putA 0 [] Cel.zero = ([], 0, 2) := by unfold putA fitC; simp [Cel.zero]
  go_wp2_with fail
  have H := arput_v (pv := .pointer none) Cel.zero w12 (ArV.nil _) (by unfold Cel.ok Cel.zero; simp)
  rw [p13] at H
  refine H.mono ?_
  clear H p13
  intro e w13 hs
  obtain ⟨rfl, hb⟩ := hs.nil_below rfl
  have I13 := Lib.hid ((I12.out.below (by go_grown)).below hb)
  clear hs hb I12
  go_wp2_with fail
  refine (arget_x (pv := .pointer none) 1 Cel.zero false _ (ArV.nil _) rfl rfl).mono ?_
  rintro e w14 ⟨rfl, hb⟩
  have I14 := Lib.hid ((I13.out.below (by go_grown)).below hb)
  clear hb I13
  obtain ⟨hg, c0, c1, c2, c3, c4, c5⟩ := (I14.out.box (c := lc) (g := w1.heap.size) (by simp)).cells
  obtain ⟨hg', d0, d1, d2, d3, d4, d5⟩ := (I14.out.box (c := lc) (g := w6.heap.size) (by simp)).cells
  have E := fun w => (E.out w).trans (by rw [Cel.beq_self])
  go_wp2_with fail
  refine (arlen_v (pv := .pointer (some ⟨w.heap.size, 0, none⟩)) (room := 1) (zs := []) (I14.out.below (by go_grown)).1.1).mono ?_
  rintro e w15 ⟨rfl, rfl⟩
  go_wp2_with fail
  refine (arroom_v (pv := .pointer (some ⟨w.heap.size, 0, none⟩)) (room := 1) (zs := []) (I14.out.below (by go_grown)).1.1).mono ?_
  rintro e w16 ⟨rfl, n, rfl⟩
  go_wp2_with fail
  refine (arlen_nil _).mono ?_
  rintro e w17 ⟨rfl, rfl⟩
  go_wp2_with fail
  refine (arroom_nil _).mono ?_
  rintro e w18 ⟨rfl, n', rfl⟩
  go_wp2_with fail
  refine (arcut_nil 0 _).mono ?_
  rintro e w19 ⟨rfl, rfl⟩
  go_wp2_with fail
  refine (arcut_nil 1 _).mono ?_
  rintro e w20 ⟨rfl, rfl⟩
  go_wp2
  go_ret
  exact ⟨rfl, (I14.out.below (below_drewN (by go_grown) _)).1.2.1⟩
end Go.Proofs.Ytidflgkefdlkfaa.F
