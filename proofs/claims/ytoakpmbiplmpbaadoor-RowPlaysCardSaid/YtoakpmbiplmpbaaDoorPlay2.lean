/-
  A contract of does: a deed done to a row, and to its places by the document's own answer: the two agree. Not a statement of the seat.
-/
import Derived.Test.YtoakpmbiplmpbaaDoorPlay1
namespace Go.Proofs.YtoakpmbiplmpbaaDoor.Bits
open Go.ChangeShapes Go.WideShapes Go.ChangeAt Go.RowKit Base Go.Shelf
theorem Ints.turned {base : Nat} {w w1 : World} {v : Value} {xs : List Int} {b g n V : Nat} (h : Ints base w v xs) (hr : RowAt w b g n V) (hg : w.grownBy w1 (some g)) : Ints base w1 v xs := by
  rcases h with h | ⟨g', o, c, hv, h1, h2, h3, h4⟩
  · exact .inl h
  · by_cases h0 : xs.length = 0
    · have : xs = [] := List.length_eq_zero_iff.1 h0
      subst this
      exact .inl ⟨⟨_, _, hv⟩, rfl⟩
    · have hne : g' ≠ g := by
        intro e
        subst e
        have h5 := h4 0 (by omega)
        unfold World.cell? at h5
        rw [hr.2.1] at h5
        simp only [Nat.add_zero] at h5
        by_cases hk : o < (n + 63) / 64
        · rw [wordsOf_get hk] at h5; simp at h5
        · rw [Array.getElem?_eq_none (by rw [size_wordsOf]; omega)] at h5; simp at h5
      refine .inr ⟨g', o, c, hv, h1, Nat.lt_of_lt_of_le h2 hg.size, h3, fun k hk => ?_⟩
      rw [World.cell?_of_block (w := w) (a := ⟨g', o + k, none⟩) (hg.block g' h2 (fun e => hne (Option.some.inj e)))]
      exact h4 k hk
theorem RowAt.apart {w : World} {b g n V b' g' n' V' : Nat} (h : RowAt w b g n V) (h' : RowAt w b' g' n' V') : b ≠ g' := by
  intro e
  have h1 := h.1
  rw [e, h'.2.1] at h1
  simp at h1
theorem below_but {w w1 : World} (h : Below w.heap.size w w1) (row : Option Nat) : w.grownBy w1 row := ⟨h.os, h.tape, h.output, h.size, fun k hk _ => h.block k hk⟩
theorem grown_then {w w1 w2 : World} {g : Nat} (h : w.grownBy w1 (some g)) (k : w1.grownBy w2 (some g)) : w.grownBy w2 (some g) :=
  ⟨k.os.trans h.os, k.tape.trans h.tape, k.output.trans h.output, Nat.le_trans h.size k.size, fun i hi hne => (k.block i (Nat.lt_of_lt_of_le hi h.size) hne).trans (h.block i hi hne)⟩
theorem box4 {w : World} {g : Nat} {t : TypeId} {a b c d : Value} (h : w.heap[g]? = some (.cells #[a, b, c, d] t)) :
    w.cell? ⟨g, 0, none⟩ = some a ∧ w.cell? ⟨g, 1, none⟩ = some b ∧ w.cell? ⟨g, 2, none⟩ = some c ∧ w.cell? ⟨g, 3, none⟩ = some d := by
  simp [World.cell?, h]
theorem set_turned {b g n V : Nat} {i : Int} {on : Bool} {w : World} (h : RowAt w b g n V) : Calls Tryd.prog 43 #[.pointer (some ⟨b, 0, none⟩), .int .i64 i, .bool on] w (Turned b g n V (setV n V i on) w) :=
  (set_any b g n V i on w h).mono fun e w' hp => by
    obtain ⟨p1, p2, p3⟩ := hp
    rw [setV_ne] at p1
    exact ⟨p1, p2, p3⟩
theorem minus_new {b1 b2 n V m O : Nat} {v u : Value} {w : World} (hx : Ints b1 w v (intsOf n V)) (hy : Ints b2 w u (intsOf m O)) (hn : n ≤ 65536) (hO : O < 2 ^ m) : Calls Tryd.prog 48 #[v, u] w (ListNew (intsOf n (minusV V O)) w) := by
  rw [← minus_ints hO]
  exact minusl_any w hx hy (Nat.le_trans (intsOf_len n V) (by omega))
theorem and_new {b1 b2 n V m O : Nat} {v u : Value} {w : World} (hx : Ints b1 w v (intsOf n V)) (hy : Ints b2 w u (intsOf m O)) (hn : n ≤ 65536) (hO : O < 2 ^ m) : Calls Tryd.prog 49 #[v, u] w (ListNew (intsOf n (V &&& O)) w) := by
  rw [← and_ints hO]
  exact andl_any w hx hy (Nat.le_trans (intsOf_len n V) (by omega))
theorem moved_new {b1 n V : Nat} {v : Value} {k : Int} {w : World} (hx : Ints b1 w v (intsOf n V)) (hn : n ≤ 65536) (hV : V < 2 ^ n) : Calls Tryd.prog 50 #[v, .int .i64 (n : Int), .int .i64 k] w (ListNew (intsOf n (movV n V k)) w) := by
  rw [← moved_ints hV]
  exact movedl_any w hx (Nat.le_trans (intsOf_len n V) (by omega)) (by omega) (by omega) fun j hj => intsOf_bound hn hj
/-- What a deed leaves: the row that is told has just the places that are told, and the two answers agree. -/
def DoesPost (b g n : Nat) (w : World) (e : Ending) (w' : World) : Prop :=
  ∃ (b' g' V' : Nat) (x : Value) (res : Bool), e = .returned (.tuple #[.pointer (some ⟨b', 0, none⟩), x, .bool res, .bool res]) ∧ RowAt w' b' g' n V' ∧ Ints 0 w' x (intsOf n V') ∧ w.grownBy w' (some g) ∧ ((b' = b ∧ g' = g) ∨ (w.heap.size ≤ b' ∧ w.heap.size ≤ g'))
/-- What holds on the way: both rows stand, both lists, the deed in its box. -/
def DS (w wx : World) (b g n V bo go no O : Nat) (v u K D I N : Value) : Prop :=
  Below w.heap.size w wx ∧ RowAt wx b g n V ∧ RowAt wx bo go no O ∧ Ints 0 wx v (intsOf n V) ∧ Ints 0 wx u (intsOf no O) ∧ wx.heap[w.heap.size]? = some (.cells #[K, D, I, N] 28)
section
variable {w wx w1 : World} {b g n V bo go no O : Nat} {v u K D I N : Value}
theorem DS.step (h : DS w wx b g n V bo go no O v u K D I N) (hb : Below wx.heap.size wx w1) : DS w w1 b g n V bo go no O v u K D I N :=
  ⟨h.1.trans (hb.mono h.1.size), h.2.1.below hb, h.2.2.1.below hb, h.2.2.2.1.below hb, h.2.2.2.2.1.below hb, (hb.block _ (heap_lt h.2.2.2.2.2)).trans h.2.2.2.2.2⟩
theorem DS.start (h : RowAt w b g n V) (ho : RowAt w bo go no O) (hx : Ints 0 w v (intsOf n V)) (hy : Ints 0 w u (intsOf no O)) : DS w (w.alloc (.cells #[K, D, I, N] 28)) b g n V bo go no O v u K D I N := by
  have hb := (Below.refl w.heap.size w).alloc (Nat.le_refl _) (.cells #[K, D, I, N] 28)
  exact ⟨hb, h.below hb, ho.below hb, hx.below hb, hy.below hb, heap_alloc_at _ _ _ rfl⟩
end
theorem want_of {n V V' : Nat} (hV : V < 2 ^ n) (hV' : V' < 2 ^ n) : decide (intsOf n V = intsOf n V') = !decide (V' ≠ V) := by
  rw [intsOf_ne hV hV']
  by_cases e : V = V'
  · subst e; simp
  · rw [decide_eq_false e, decide_eq_true (show V' ≠ V from fun h => e h.symm)]; rfl
set_option maxHeartbeats 4000000 in
set_option maxRecDepth 100000 in
theorem does_0 (b g n V bo go no O : Nat) (v u : Value) (other : Bool) (I : Int) (on : Bool) (w : World) (h : RowAt w b g n V) (ho : RowAt w bo go no O) (hx : Ints 0 w v (intsOf n V)) (hy : Ints 0 w u (intsOf no O)) :
    Calls Tryd.prog 11 #[.pointer (some ⟨b, 0, none⟩), .pointer (some ⟨bo, 0, none⟩), v, u, .agg #[.int .i64 0, .bool other, .int .i64 I, .bool on]] w (DoesPost b g n w) := by
  have D0 := Lib.hid (DS.start (K := .int .i64 0) (D := .bool other) (I := .int .i64 I) (N := .bool on) h ho hx hy)
  have hn := h.2.2.1
  clear h ho hx hy
  go_enter Tryd.func11, Tryd.ntmps11
  go_wp2_with fail
  refine (len_any b g n V _ D0.out.2.1).mono ?_
  rintro e x ⟨rfl, rfl⟩
  obtain ⟨c0, c1, c2, c3⟩ := box4 D0.out.2.2.2.2.2
  have hz := heap_lt D0.out.2.2.2.2.2
  go_wp2_with fail
  refine (put_row (i := I) (on := on) _ D0.out.2.2.2.1 hn).mono ?_
  rintro e w1 ⟨⟨xv, rfl, hxv⟩, hb⟩
  have D1 := Lib.hid (D0.out.step hb)
  have X1 := Lib.hid hxv
  clear c0 c1 c2 c3 hz hxv hb D0
  obtain ⟨c0, c1, c2, c3⟩ := box4 D1.out.2.2.2.2.2
  have hz := heap_lt D1.out.2.2.2.2.2
  go_wp2_with fail
  refine (set_turned (i := I) (on := on) D1.out.2.1).mono ?_
  rintro e w2 ⟨rfl, hr, hg⟩
  have R2 := Lib.hid hr
  have L2 := Lib.hid (D1.out.2.2.2.1.turned D1.out.2.1 hg)
  have X2 := Lib.hid (X1.out.turned D1.out.2.1 hg)
  have G2 := Lib.hid (grown_then (below_but D1.out.1 (some g)) hg)
  have HW := Lib.hid (sameInts_ints L2.out X2.out)
  rw [want_of D1.out.2.1.2.2.2 hr.2.2.2] at HW
  clear c0 c1 c2 c3 hz hr hg D1 X1 L2
  generalize setV n V I on = V' at R2 X2 HW ⊢
  skip
  generalize decide (V' ≠ V) = res at HW ⊢
  go_wp2_with fail
  refine (HW.out).mono ?_
  rintro e w3 ⟨rfl, q, rfl⟩
  have hb := below_drewN (Below.refl w2.heap.size w2) q
  have HP : Hid (DoesPost b g n w (.returned (.tuple #[.pointer (some ⟨b, 0, none⟩), xv, .bool res, .bool res])) (w2.drewN q)) := Lib.hid ⟨b, g, V', xv, res, rfl, R2.out.below hb, X2.out.below hb, grown_then G2.out (below_but hb _), .inl ⟨rfl, rfl⟩⟩
  clear R2 X2 G2 HW hb
  cases res
  · go_wp2
    exact bodyPost_ret (by simp [results, Tryd.results11, go_sem]) rfl HP.out
  · go_wp2
    exact bodyPost_ret (by simp [results, Tryd.results11, go_sem]) rfl HP.out
set_option maxHeartbeats 4000000 in
set_option maxRecDepth 100000 in
theorem does_1 (b g n V bo go no O : Nat) (v u : Value) (other : Bool) (I : Int) (on : Bool) (w : World) (h : RowAt w b g n V) (ho : RowAt w bo go no O) (hx : Ints 0 w v (intsOf n V)) (hy : Ints 0 w u (intsOf no O)) :
    Calls Tryd.prog 11 #[.pointer (some ⟨b, 0, none⟩), .pointer (some ⟨bo, 0, none⟩), v, u, .agg #[.int .i64 1, .bool other, .int .i64 I, .bool on]] w (DoesPost b g n w) := by
  have D0 := Lib.hid (DS.start (K := .int .i64 1) (D := .bool other) (I := .int .i64 I) (N := .bool on) h ho hx hy)
  have hn := h.2.2.1
  clear h ho hx hy
  go_enter Tryd.func11, Tryd.ntmps11
  go_wp2_with fail
  refine (len_any b g n V _ D0.out.2.1).mono ?_
  rintro e x ⟨rfl, rfl⟩
  obtain ⟨c0, c1, c2, c3⟩ := box4 D0.out.2.2.2.2.2
  have hz := heap_lt D0.out.2.2.2.2.2
  go_wp2_with fail
  refine (put_row (i := I) (on := on) _ D0.out.2.2.2.1 hn).mono ?_
  rintro e w1 ⟨⟨xv, rfl, hxv⟩, hb⟩
  have D1 := Lib.hid (D0.out.step hb)
  have X1 := Lib.hid hxv
  clear c0 c1 c2 c3 hz hxv hb D0
  obtain ⟨c0, c1, c2, c3⟩ := box4 D1.out.2.2.2.2.2
  have hz := heap_lt D1.out.2.2.2.2.2
  go_wp2_with fail
  refine (set_turned (i := I) (on := on) D1.out.2.1).mono ?_
  rintro e w2 ⟨rfl, hr, hg⟩
  have R2 := Lib.hid hr
  have L2 := Lib.hid (D1.out.2.2.2.1.turned D1.out.2.1 hg)
  have X2 := Lib.hid (X1.out.turned D1.out.2.1 hg)
  have G2 := Lib.hid (grown_then (below_but D1.out.1 (some g)) hg)
  have HW := Lib.hid (sameInts_ints L2.out X2.out)
  rw [want_of D1.out.2.1.2.2.2 hr.2.2.2] at HW
  clear c0 c1 c2 c3 hz hr hg D1 X1 L2
  generalize setV n V I on = V' at R2 X2 HW ⊢
  skip
  generalize decide (V' ≠ V) = res at HW ⊢
  go_wp2_with fail
  refine (HW.out).mono ?_
  rintro e w3 ⟨rfl, q, rfl⟩
  have hb := below_drewN (Below.refl w2.heap.size w2) q
  have HP : Hid (DoesPost b g n w (.returned (.tuple #[.pointer (some ⟨b, 0, none⟩), xv, .bool res, .bool res])) (w2.drewN q)) := Lib.hid ⟨b, g, V', xv, res, rfl, R2.out.below hb, X2.out.below hb, grown_then G2.out (below_but hb _), .inl ⟨rfl, rfl⟩⟩
  clear R2 X2 G2 HW hb
  cases res
  · go_wp2
    exact bodyPost_ret (by simp [results, Tryd.results11, go_sem]) rfl HP.out
  · go_wp2
    exact bodyPost_ret (by simp [results, Tryd.results11, go_sem]) rfl HP.out
set_option maxHeartbeats 4000000 in
set_option maxRecDepth 100000 in
theorem does_2 (b g n V bo go no O : Nat) (v u : Value) (other : Bool) (I : Int) (on : Bool) (w : World) (h : RowAt w b g n V) (ho : RowAt w bo go no O) (hx : Ints 0 w v (intsOf n V)) (hy : Ints 0 w u (intsOf no O)) (hne : go ≠ g) :
    Calls Tryd.prog 11 #[.pointer (some ⟨b, 0, none⟩), .pointer (some ⟨bo, 0, none⟩), v, u, .agg #[.int .i64 2, .bool other, .int .i64 I, .bool on]] w (DoesPost b g n w) := by
  have D0 := Lib.hid (DS.start (K := .int .i64 2) (D := .bool other) (I := .int .i64 I) (N := .bool on) h ho hx hy)
  have hn := h.2.2.1
  have hbo := ho.apart h
  clear h ho hx hy
  go_enter Tryd.func11, Tryd.ntmps11
  go_wp2_with fail
  refine (len_any b g n V _ D0.out.2.1).mono ?_
  rintro e x ⟨rfl, rfl⟩
  obtain ⟨c0, c1, c2, c3⟩ := box4 D0.out.2.2.2.2.2
  have hz := heap_lt D0.out.2.2.2.2.2
  go_wp2_with fail
  refine (orl_row _ D0.out.2.2.2.1 hn D0.out.2.2.2.2.1 D0.out.2.2.1.2.2.2).mono ?_
  rintro e w1 ⟨⟨xv, rfl, hxv⟩, hb⟩
  have D1 := Lib.hid (D0.out.step hb)
  have X1 := Lib.hid hxv
  clear c0 c1 c2 c3 hz hxv hb D0
  obtain ⟨c0, c1, c2, c3⟩ := box4 D1.out.2.2.2.2.2
  have hz := heap_lt D1.out.2.2.2.2.2
  go_wp2_with fail
  refine (or_row b g n V bo go no O _ D1.out.2.1 D1.out.2.2.1 ⟨hbo, hne⟩).mono ?_
  rintro e w2 ⟨rfl, hr, hg⟩
  have R2 := Lib.hid hr
  have L2 := Lib.hid (D1.out.2.2.2.1.turned D1.out.2.1 hg)
  have X2 := Lib.hid (X1.out.turned D1.out.2.1 hg)
  have G2 := Lib.hid (grown_then (below_but D1.out.1 (some g)) hg)
  have HW := Lib.hid (sameInts_ints L2.out X2.out)
  rw [want_of D1.out.2.1.2.2.2 hr.2.2.2] at HW
  clear c0 c1 c2 c3 hz hr hg D1 X1 L2
  generalize orV n V O = V' at R2 X2 HW ⊢
  skip
  generalize decide (V' ≠ V) = res at HW ⊢
  go_wp2_with fail
  refine (HW.out).mono ?_
  rintro e w3 ⟨rfl, q, rfl⟩
  have hb := below_drewN (Below.refl w2.heap.size w2) q
  have HP : Hid (DoesPost b g n w (.returned (.tuple #[.pointer (some ⟨b, 0, none⟩), xv, .bool res, .bool res])) (w2.drewN q)) := Lib.hid ⟨b, g, V', xv, res, rfl, R2.out.below hb, X2.out.below hb, grown_then G2.out (below_but hb _), .inl ⟨rfl, rfl⟩⟩
  clear R2 X2 G2 HW hb
  cases res
  · go_wp2
    exact bodyPost_ret (by simp [results, Tryd.results11, go_sem]) rfl HP.out
  · go_wp2
    exact bodyPost_ret (by simp [results, Tryd.results11, go_sem]) rfl HP.out
set_option maxHeartbeats 4000000 in
set_option maxRecDepth 100000 in
theorem does_3 (b g n V bo go no O : Nat) (v u : Value) (other : Bool) (I : Int) (on : Bool) (w : World) (h : RowAt w b g n V) (ho : RowAt w bo go no O) (hx : Ints 0 w v (intsOf n V)) (hy : Ints 0 w u (intsOf no O)) (hne : go ≠ g) :
    Calls Tryd.prog 11 #[.pointer (some ⟨b, 0, none⟩), .pointer (some ⟨bo, 0, none⟩), v, u, .agg #[.int .i64 3, .bool other, .int .i64 I, .bool on]] w (DoesPost b g n w) := by
  have D0 := Lib.hid (DS.start (K := .int .i64 3) (D := .bool other) (I := .int .i64 I) (N := .bool on) h ho hx hy)
  have hn := h.2.2.1
  have hbo := ho.apart h
  clear h ho hx hy
  go_enter Tryd.func11, Tryd.ntmps11
  go_wp2_with fail
  refine (len_any b g n V _ D0.out.2.1).mono ?_
  rintro e x ⟨rfl, rfl⟩
  obtain ⟨c0, c1, c2, c3⟩ := box4 D0.out.2.2.2.2.2
  have hz := heap_lt D0.out.2.2.2.2.2
  go_wp2_with fail
  refine (minus_new D0.out.2.2.2.1 D0.out.2.2.2.2.1 hn D0.out.2.2.1.2.2.2).mono ?_
  rintro e w1 ⟨⟨xv, rfl, hxv⟩, hb⟩
  have D1 := Lib.hid (D0.out.step hb)
  have X1 := Lib.hid hxv
  clear c0 c1 c2 c3 hz hxv hb D0
  obtain ⟨c0, c1, c2, c3⟩ := box4 D1.out.2.2.2.2.2
  have hz := heap_lt D1.out.2.2.2.2.2
  go_wp2_with fail
  refine (minus_row b g n V bo go no O _ D1.out.2.1 D1.out.2.2.1 ⟨hbo, hne⟩).mono ?_
  rintro e w2 ⟨rfl, hr, hg⟩
  have R2 := Lib.hid hr
  have L2 := Lib.hid (D1.out.2.2.2.1.turned D1.out.2.1 hg)
  have X2 := Lib.hid (X1.out.turned D1.out.2.1 hg)
  have G2 := Lib.hid (grown_then (below_but D1.out.1 (some g)) hg)
  have HW := Lib.hid (sameInts_ints L2.out X2.out)
  rw [want_of D1.out.2.1.2.2.2 hr.2.2.2] at HW
  clear c0 c1 c2 c3 hz hr hg D1 X1 L2
  generalize minusV V O = V' at R2 X2 HW ⊢
  skip
  generalize decide (V' ≠ V) = res at HW ⊢
  go_wp2_with fail
  refine (HW.out).mono ?_
  rintro e w3 ⟨rfl, q, rfl⟩
  have hb := below_drewN (Below.refl w2.heap.size w2) q
  have HP : Hid (DoesPost b g n w (.returned (.tuple #[.pointer (some ⟨b, 0, none⟩), xv, .bool res, .bool res])) (w2.drewN q)) := Lib.hid ⟨b, g, V', xv, res, rfl, R2.out.below hb, X2.out.below hb, grown_then G2.out (below_but hb _), .inl ⟨rfl, rfl⟩⟩
  clear R2 X2 G2 HW hb
  cases res
  · go_wp2
    exact bodyPost_ret (by simp [results, Tryd.results11, go_sem]) rfl HP.out
  · go_wp2
    exact bodyPost_ret (by simp [results, Tryd.results11, go_sem]) rfl HP.out
set_option maxHeartbeats 4000000 in
set_option maxRecDepth 100000 in
theorem does_4 (b g n V bo go no O : Nat) (v u : Value) (other : Bool) (I : Int) (on : Bool) (w : World) (h : RowAt w b g n V) (ho : RowAt w bo go no O) (hx : Ints 0 w v (intsOf n V)) (hy : Ints 0 w u (intsOf no O)) (hne : go ≠ g) :
    Calls Tryd.prog 11 #[.pointer (some ⟨b, 0, none⟩), .pointer (some ⟨bo, 0, none⟩), v, u, .agg #[.int .i64 4, .bool other, .int .i64 I, .bool on]] w (DoesPost b g n w) := by
  have D0 := Lib.hid (DS.start (K := .int .i64 4) (D := .bool other) (I := .int .i64 I) (N := .bool on) h ho hx hy)
  have hn := h.2.2.1
  have hbo := ho.apart h
  clear h ho hx hy
  go_enter Tryd.func11, Tryd.ntmps11
  go_wp2_with fail
  refine (len_any b g n V _ D0.out.2.1).mono ?_
  rintro e x ⟨rfl, rfl⟩
  obtain ⟨c0, c1, c2, c3⟩ := box4 D0.out.2.2.2.2.2
  have hz := heap_lt D0.out.2.2.2.2.2
  go_wp2_with fail
  refine (and_new D0.out.2.2.2.1 D0.out.2.2.2.2.1 hn D0.out.2.2.1.2.2.2).mono ?_
  rintro e w1 ⟨⟨xv, rfl, hxv⟩, hb⟩
  have D1 := Lib.hid (D0.out.step hb)
  have X1 := Lib.hid hxv
  clear c0 c1 c2 c3 hz hxv hb D0
  obtain ⟨c0, c1, c2, c3⟩ := box4 D1.out.2.2.2.2.2
  have hz := heap_lt D1.out.2.2.2.2.2
  go_wp2_with fail
  refine (and_row b g n V bo go no O _ D1.out.2.1 D1.out.2.2.1 ⟨hbo, hne⟩).mono ?_
  rintro e w2 ⟨rfl, hr, hg⟩
  have R2 := Lib.hid hr
  have L2 := Lib.hid (D1.out.2.2.2.1.turned D1.out.2.1 hg)
  have X2 := Lib.hid (X1.out.turned D1.out.2.1 hg)
  have G2 := Lib.hid (grown_then (below_but D1.out.1 (some g)) hg)
  have HW := Lib.hid (sameInts_ints L2.out X2.out)
  rw [want_of D1.out.2.1.2.2.2 hr.2.2.2] at HW
  clear c0 c1 c2 c3 hz hr hg D1 X1 L2
  generalize (V &&& O) = V' at R2 X2 HW ⊢
  skip
  generalize decide (V' ≠ V) = res at HW ⊢
  go_wp2_with fail
  refine (HW.out).mono ?_
  rintro e w3 ⟨rfl, q, rfl⟩
  have hb := below_drewN (Below.refl w2.heap.size w2) q
  have HP : Hid (DoesPost b g n w (.returned (.tuple #[.pointer (some ⟨b, 0, none⟩), xv, .bool res, .bool res])) (w2.drewN q)) := Lib.hid ⟨b, g, V', xv, res, rfl, R2.out.below hb, X2.out.below hb, grown_then G2.out (below_but hb _), .inl ⟨rfl, rfl⟩⟩
  clear R2 X2 G2 HW hb
  cases res
  · go_wp2
    exact bodyPost_ret (by simp [results, Tryd.results11, go_sem]) rfl HP.out
  · go_wp2
    exact bodyPost_ret (by simp [results, Tryd.results11, go_sem]) rfl HP.out
end Go.Proofs.YtoakpmbiplmpbaaDoor.Bits
