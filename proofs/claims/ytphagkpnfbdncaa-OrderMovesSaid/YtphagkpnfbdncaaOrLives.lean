/-
  What the statements on orders ask first: lives. Not a statement of the seat.
-/
import Derived.Test.YtphagkpnfbdncaaOrRef3
import Derived.Test.YtphagkpnfbdncaaPaiSame
namespace Go.Proofs.Ytphagkpnfbdncaa.Or
open Go.ChangeShapes Go.WideShapes Go.ChangeAt Go.RowKit Base Lst
/-- A world behind another one: all that lay, lies. -/
def Aft (w W : World) : Prop := Below w.heap.size w W
theorem Aft.refl (w : World) : Aft w w := Below.refl _ _
theorem Aft.lay {w W : World} (h : Aft w W) (o : Obj) : Aft w (W.alloc o) := Below.alloc h h.size o
theorem Aft.trans {w W W' : World} (h : Aft w W) (h' : Aft W W') : Aft w W' := Below.trans h (h'.mono h.size)
theorem Aft.drew {w W : World} (h : Aft w W) (q : Nat) : Aft w (W.drewN q) := below_drewN h q
theorem Aft.one {w : World} (o : Obj) : Aft w (w.alloc o) := (Aft.refl w).lay o
theorem SL.aft {w W : World} {v : Value} {xs : List Int} (h : SL w v xs) (hw : Aft w W) : SL W v xs := h.below hw
/-- Some ints that are typed out, in the last block. -/
theorem lit_sl (zs : List Int) (w : World) (vs : Array Value) (hv : vs = (zs.map (Value.int .i64)).toArray) (hl : zs.length ≤ 65536) (m : Nat) (hm : m = zs.length) : SL (w.alloc (.cells vs 3)) (.slice (some ⟨w.heap.size, 0, none⟩) m m) zs := by
  subst hm
  exact ⟨⟨(lit_ints zs w 3 vs hv hl _ rfl).mono (Nat.zero_le _), _, _, rfl, Nat.le_refl _⟩, fun n c e => by cases e⟩
theorem lit_sl' (zs : List Int) (w : World) (vs : Array Value) (hv : vs = (zs.map (Value.int .i64)).toArray) (hl : zs.length ≤ 65536) (m : Nat) (hm : m = zs.length) (g : Nat) (hg : g = w.heap.size) : SL (w.alloc (.cells vs 3)) (.slice (some ⟨g, 0, none⟩) m m) zs := by
  subst hg
  exact lit_sl zs w vs hv hl m hm
def RetP (P : Prop) (r : Value) (w : World) (e : Ending) (w' : World) : Prop := e = .returned r ∧ Aft w w' ∧ P
theorem l_next {w W : World} {v : Value} {zs : List Int} (h : SL w v zs) (hl : zs.length ≤ 65536) (hw : Aft w W) (x a : Int) (b : Bool) (ha : Om.nextV zs x = a) (hb : Om.nextB zs x = b) : Calls Try.prog 7 #[v, .int .i64 x] W fun e w' => e = .returned (.tuple #[.int .i64 a, .bool b]) ∧ W = w' := by
  have := next_any x W (h.below hw).1.1 (by omega)
  rwa [ha, hb] at this
theorem l_prev {w W : World} {v : Value} {zs : List Int} (h : SL w v zs) (hl : zs.length ≤ 65536) (hw : Aft w W) (x a : Int) (b : Bool) (ha : Om.prevV zs x = a) (hb : Om.prevB zs x = b) : Calls Try.prog 9 #[v, .int .i64 x] W fun e w' => e = .returned (.tuple #[.int .i64 a, .bool b]) ∧ W = w' := by
  have := prev_any x W (h.below hw).1.1 (by omega)
  rwa [ha, hb] at this
theorem l_move {w W : World} {v : Value} {zs : List Int} (h : SL w v zs) (hl : zs.length ≤ 65536) (hw : Aft w W) (x p : Int) (hp : -9223372036854775808 ≤ p ∧ p ≤ 9223372036854775807) (ys : List Int) (c : Int) (ha : Om.moveL zs x p = ys) (hb : Om.moveE zs x p = c) (hyl : ys.length ≤ 65536) : Calls Try.prog 11 #[v, .int .i64 x, .int .i64 p] W fun e w' => ∃ v', e = .returned (.tuple #[v', .int .i64 c]) ∧ SL w' v' ys ∧ Aft W w' := by
  have := move_any x p W (h.below hw).1 (by omega) hp
  rw [ha, hb] at this
  exact this.mono fun e w' ⟨v', h1, h2, h3⟩ => ⟨v', h1, own_sl h2 (by omega), h3⟩
theorem l_steps {w W : World} {v u : Value} {zs ys : List Int} (h : SL w v zs) (hl : zs.length ≤ 65536) (hw : Aft w W) (hu : SL W u ys) (hbz : Bd zs) (hby : Bd ys) (ps : List (Int × Int)) (c : Int) (ha : Om.stepsL zs ys = ps) (hb : Om.stepsE zs ys = c) (hpl : ps.length ≤ 65536) : Calls Try.prog 13 #[v, u] W fun e w' => ∃ v', e = .returned (.tuple #[v', .int .i64 c]) ∧ F.Pais 0 w' v' (toPs ps) ∧ Aft W w' := by
  have := steps_any W (h.below hw).1 hu.1.1 (by omega) hbz hby
  rw [ha, hb] at this
  exact this.mono fun e w' ⟨v', h1, h2, h3⟩ => ⟨v', h1, (h2.list (by unfold toPs; rw [List.length_map]; omega)).mono (Nat.zero_le _), h3⟩
theorem l_steps0 {w W : World} {v u : Value} {zs ys : List Int} (h : SL w v zs) (hl : zs.length ≤ 65536) (hw : Aft w W) (hu : SL W u ys) (hbz : Bd zs) (hby : Bd ys) (ha : Om.stepsL zs ys = []) (hb : Om.stepsE zs ys = 0) : Calls Try.prog 13 #[v, u] W fun e w' => ∃ p c, e = .returned (.tuple #[.slice p 0 c, .int .i64 0]) ∧ Aft W w' := by
  refine (l_steps h hl hw hu hbz hby [] 0 ha hb (by simp)).mono fun e w' ⟨v', h1, h2, h3⟩ => ?_
  obtain ⟨p, c, h4, _⟩ := h2.open_
  exact ⟨p, c, by rw [h1, h4]; rfl, h3⟩
theorem l_right {w W : World} {v : Value} {zs : List Int} (h : SL w v zs) (hl : zs.length ≤ 65536) (hw : Aft w W) (hbz : Bd zs) (b : Bool) (hb : Om.rightB zs = b) : Calls Try.prog 17 #[v] W fun e w' => e = .returned (.bool b) ∧ Aft W w' := by
  have := right_any W (h.below hw).1.1 (by omega) hbz
  rw [hb] at this
  exact this
theorem l_perm {w W : World} {v u : Value} {zs ys : List Int} (h : SL w v zs) (hl : zs.length ≤ 65536) (hw : Aft w W) (hu : SL W u ys) (hbz : Bd zs) (hby : Bd ys) (b : Bool) (hb : Om.permB zs ys = b) : Calls Try.prog 19 #[v, u] W fun e w' => e = .returned (.bool b) ∧ Aft W w' := by
  have := perm_any W (h.below hw).1.1 hu.1.1 (by omega) hbz hby
  rw [hb] at this
  exact this
theorem l_same {w W : World} {v u : Value} {zs ys : List Int} (h : SL w v zs) (hw : Aft w W) (hu : SL W u ys) (hb : zs = ys) : Calls Try.prog 21 #[v, u] W fun e w' => e = .returned (.bool true) ∧ Aft W w' := by
  have := same_any (h.below hw).1.1 hu.1.1
  rw [decide_eq_true hb] at this
  exact this.mono fun e w' ⟨h1, q, h2⟩ => ⟨h1, by rw [h2]; exact (Aft.refl W).drew q⟩
theorem l_with {w W : World} {v : Value} {zs : List Int} (h : SL w v zs) (hl : zs.length ≤ 65536) (hw : Aft w W) (x : Int) (ys : List Int) (ha : Om.withL zs x = ys) (hyl : ys.length ≤ 65537) : Calls Try.prog 22 #[v, .int .i64 x] W fun e w' => ∃ v', e = .returned v' ∧ SL w' v' ys ∧ Aft W w' := by
  have := with_any x W (h.below hw).1.1 (by omega)
  rw [ha] at this
  exact this.mono fun e w' ⟨v', h1, h2, h3⟩ => ⟨v', h1, own_sl h2 (by omega), h3⟩
theorem l_without {w W : World} {v : Value} {zs : List Int} (h : SL w v zs) (hl : zs.length ≤ 65536) (hw : Aft w W) (x : Int) (ys : List Int) (ha : Om.without zs x = ys) : Calls Try.prog 24 #[v, .int .i64 x] W fun e w' => ∃ v', e = .returned v' ∧ SL w' v' ys ∧ Aft W w' := by
  have := without_any x W (h.below hw).1.1 (by omega)
  rw [ha] at this
  have hl2 : ys.length ≤ 65536 := by rw [← ha]; exact Nat.le_trans (List.length_filter_le _ _) hl
  exact this.mono fun e w' ⟨v', h1, h2, h3⟩ => ⟨v', h1, own_sl h2 (by omega), h3⟩
theorem l_psame {w W : World} {v u : Value} {ps qs : List F.Pai} (h : F.Pais 0 w v ps) (hw : Aft w W) (hu : F.Pais 0 W u qs) (hl : ps.length ≤ 65536) (hb : ps = qs) : Calls Try.prog 16 #[v, u] W fun e w' => e = .returned (.bool true) ∧ Aft W w' := by
  have := F.same_ref v u ps qs W (h.below hw) hu (by omega)
  rw [(F.sameL_iff ps qs).2 hb] at this
  exact this.mono fun e w' ⟨h1, q, h2⟩ => ⟨h1, by rw [h2]; exact (Aft.refl W).drew q⟩
/-- What lives leaves. -/
def LivesP (w : World) (e : Ending) (w' : World) : Prop := e = .returned (.bool true) ∧ Aft w w'
def vs123 : Array Value := #[.int .i64 1, .int .i64 2, .int .i64 3]
theorem bd_small {zs : List Int} (h : zs.all (fun x => decide (-1000 ≤ x) && decide (x ≤ 1000)) = true) : Bd zs := fun x hx => by
  have := List.all_eq_true.1 h x hx
  simp at this
  omega
set_option maxRecDepth 100000 in
set_option maxHeartbeats 4000000 in
theorem lives (w : World) : Calls Try.prog 6 #[] w (LivesP w) := by
  have HE : Hid (∀ w', Aft w w' → LivesP w (.returned (.bool true)) w') := Lib.hid fun w' h => ⟨rfl, h⟩
  have HL : Hid (SL (w.alloc (.cells #[.int .i64 1, .int .i64 2, .int .i64 3] 3)) (.slice (some ⟨w.heap.size, 0, none⟩) 3 3) [1, 2, 3]) := Lib.hid (lit_sl [1, 2, 3] w _ rfl (by simp) 3 rfl)
  have HB := Lib.hid (Aft.refl (w.alloc (.cells #[.int .i64 1, .int .i64 2, .int .i64 3] 3)))
  have hb123 := Lib.hid (bd_small (zs := [1, 2, 3]) (by decide))
  have hl123 : ([1, 2, 3] : List Int).length ≤ 65536 := by simp
  generalize LivesP w = Post at HE ⊢
  go_enter Try.func6, Try.ntmps6
  go_wp2_with (first
    | (go_at_call 7; ((with_reducible refine (l_next HL.out (by simp) HB.out 0 1 true (by decide) (by decide)).mono ?_); rintro e w' ⟨rfl, rfl⟩))
    | (go_at_call 7; ((with_reducible refine (l_next HL.out (by simp) HB.out 2 3 true (by decide) (by decide)).mono ?_); rintro e w' ⟨rfl, rfl⟩))
    | (go_at_call 7; ((with_reducible refine (l_next HL.out (by simp) HB.out 3 0 false (by decide) (by decide)).mono ?_); rintro e w' ⟨rfl, rfl⟩))
    | (go_at_call 7; ((with_reducible refine (l_next HL.out (by simp) HB.out 9 0 false (by decide) (by decide)).mono ?_); rintro e w' ⟨rfl, rfl⟩))
    | (go_at_call 9; ((with_reducible refine (l_prev HL.out (by simp) HB.out 2 1 true (by decide) (by decide)).mono ?_); rintro e w' ⟨rfl, rfl⟩))
    | (go_at_call 9; ((with_reducible refine (l_prev HL.out (by simp) HB.out 1 0 false (by decide) (by decide)).mono ?_); rintro e w' ⟨rfl, rfl⟩)))
  go_wp2_with (go_at_call 11; ((with_reducible refine (l_move HL.out (by simp) HB.out 3 0 (by omega) [3, 1, 2] 0 (by decide) (by decide) (by simp)).mono ?_); rintro e w2 ⟨v14, rfl, h1, h2⟩; have HM : Hid (SL w2 v14 [3, 1, 2]) := Lib.hid h1; have HL := Lib.hid (HL.out.below h2); have HW : Hid (Aft w w2) := Lib.hid ((Aft.one _).trans h2); have HB := Lib.hid (Aft.refl w2); clear h1 h2))
  go_wp2_with (first
    | (go_at_call 11; ((with_reducible refine (l_move HL.out (by simp) HB.out 9 0 (by omega) [] 3 (by decide) (by decide) (by simp)).mono ?_); rintro e w3 ⟨v16, rfl, h1, h2⟩; have HB := Lib.hid (HB.out.trans h2); clear h1 h2))
    | (go_at_call 11; ((with_reducible refine (l_move HL.out (by simp) HB.out 3 3 (by omega) [] 1 (by decide) (by decide) (by simp)).mono ?_); rintro e w3 ⟨v18, rfl, h1, h2⟩; have HB := Lib.hid (HB.out.trans h2); clear h1 h2))
    | (go_at_call 13; ((with_reducible refine (l_steps HL.out (by simp) (HB.out.lay _) (lit_sl [3, 1, 2] _ #[.int .i64 3, .int .i64 1, .int .i64 2] rfl (by simp) 3 rfl) hb123.out (bd_small (by decide)) [(3, 0)] 0 (by decide) (by decide) (by simp)).mono ?_); rintro e w4 ⟨v20, rfl, h1, h2⟩; have HS : Hid (F.Pais 0 w4 v20 (toPs [(3, 0)])) := Lib.hid h1; have HA := Lib.hid ((HB.out.lay _).trans h2); have HL := Lib.hid (HL.out.below HA.out); have HM := Lib.hid (HM.out.below HA.out); have HW : Hid (Aft w w4) := Lib.hid (HW.out.trans HA.out); have HB := Lib.hid (Aft.refl w4); clear h1 h2)))
  go_wp2_with (first
    | (go_at_call 13; ((with_reducible refine (l_steps HL.out (by simp) (HB.out.lay _) (lit_sl [1, 2] _ #[.int .i64 1, .int .i64 2] rfl (by simp) 2 rfl) hb123.out (bd_small (by decide)) [] 8 (by decide) (by decide) (by simp)).mono ?_); rintro e w5 ⟨v22, rfl, h1, h2⟩; have HB := Lib.hid ((HB.out.lay _).trans h2); clear h1 h2))
    | (go_at_call 13; ((with_reducible refine (l_steps0 HL.out (by simp) HB.out (HL.out.aft HB.out) hb123.out hb123.out (by decide) (by decide)).mono ?_); rintro e w6 ⟨p24, c24, rfl, h2⟩; have HB := Lib.hid (HB.out.trans h2); clear h2)))
  go_wp2_with (first
    | (go_at_call 21; ((with_reducible refine (l_same HM.out (HB.out.lay _) (lit_sl [3, 1, 2] _ #[.int .i64 3, .int .i64 1, .int .i64 2] rfl (by simp) 3 rfl) rfl).mono ?_); rintro e w7 ⟨rfl, h2⟩; have HB := Lib.hid ((HB.out.lay _).trans h2); clear h2))
    | (go_at_call 16; ((with_reducible refine (l_psame HS.out (HB.out.lay _) (F.pai_lit ⟨3, 0⟩ _) (by decide) rfl).mono ?_); rintro e w7 ⟨rfl, h2⟩; have HB := Lib.hid ((HB.out.lay _).trans h2); clear h2))
    | (go_at_call 17; ((with_reducible refine (l_right HL.out (by simp) HB.out hb123.out true (by decide)).mono ?_); rintro e w7 ⟨rfl, h2⟩; have HB := Lib.hid (HB.out.trans h2); clear h2))
    | (go_at_call 17; ((with_reducible refine (l_right (lit_sl [1, 1] _ #[.int .i64 1, .int .i64 1] rfl (by simp) 2 rfl) (by simp) (Aft.refl _) (bd_small (by decide)) false (by decide)).mono ?_); rintro e w7 ⟨rfl, h2⟩; have HB := Lib.hid ((HB.out.lay _).trans h2); clear h2))
    | (go_at_call 17; ((with_reducible refine (l_right (lit_sl [0] _ #[.int .i64 0] rfl (by simp) 1 rfl) (by simp) (Aft.refl _) (bd_small (by decide)) false (by decide)).mono ?_); rintro e w7 ⟨rfl, h2⟩; have HB := Lib.hid ((HB.out.lay _).trans h2); clear h2))
    | (go_at_call 17; ((with_reducible refine (l_right (SL.nil) (by simp) (Aft.refl _) (bd_small (by decide)) true (by decide)).mono ?_); rintro e w7 ⟨rfl, h2⟩; have HB := Lib.hid (HB.out.trans h2); clear h2))
    | (go_at_call 19; ((with_reducible refine (l_perm HL.out (by simp) (HB.out.lay _) (lit_sl [3, 2, 1] _ #[.int .i64 3, .int .i64 2, .int .i64 1] rfl (by simp) 3 rfl) hb123.out (bd_small (by decide)) true (by decide)).mono ?_); rintro e w7 ⟨rfl, h2⟩; have HB := Lib.hid ((HB.out.lay _).trans h2); clear h2))
    | (go_at_call 19; ((with_reducible refine (l_perm (lit_sl [1, 1, 2] _ #[.int .i64 1, .int .i64 1, .int .i64 2] rfl (by simp) 3 rfl) (by simp) (Aft.one _) (lit_sl' [1, 2, 2] _ #[.int .i64 1, .int .i64 2, .int .i64 2] rfl (by simp) 3 rfl _ (by simp)) (bd_small (by decide)) (bd_small (by decide)) false (by decide)).mono ?_); rintro e w7 ⟨rfl, h2⟩; have HB := Lib.hid (((HB.out.lay _).lay _).trans h2); clear h2))
    | (go_at_call 22; ((with_reducible refine (l_with HL.out (by simp) HB.out 4 [1, 2, 3, 4] (by decide) (by simp)).mono ?_); rintro e w7 ⟨v7, rfl, h1, h2⟩; have H7 := Lib.hid h1; have HB := Lib.hid (HB.out.trans h2); clear h1 h2))
    | (go_at_call 21; ((with_reducible refine (l_same H7.out (Aft.one _) (lit_sl [1, 2, 3, 4] _ #[.int .i64 1, .int .i64 2, .int .i64 3, .int .i64 4] rfl (by simp) 4 rfl) rfl).mono ?_); rintro e w8 ⟨rfl, h2⟩; have HB := Lib.hid ((HB.out.lay _).trans h2); clear h2))
    | (go_at_call 22; ((with_reducible refine (l_with HL.out (by simp) HB.out 2 [1, 2, 3] (by decide) (by simp)).mono ?_); rintro e w9 ⟨v9, rfl, h1, h2⟩; have H9 := Lib.hid h1; have HB := Lib.hid (HB.out.trans h2); clear h1 h2))
    | (go_at_call 21; ((with_reducible refine (l_same H9.out (Aft.refl _) (HL.out.aft HB.out) rfl).mono ?_); rintro e w8 ⟨rfl, h2⟩; have HB := Lib.hid (HB.out.trans h2); clear h2))
    | (go_at_call 24; ((with_reducible refine (l_without (lit_sl [1, 2, 1] _ #[.int .i64 1, .int .i64 2, .int .i64 1] rfl (by simp) 3 rfl) (by simp) (Aft.refl _) 1 [2] (by decide)).mono ?_); rintro e w10 ⟨v10, rfl, h1, h2⟩; have H10 := Lib.hid h1; have HB := Lib.hid ((HB.out.lay _).trans h2); clear h1 h2))
    | (go_at_call 21; ((with_reducible refine (l_same H10.out (Aft.one _) (lit_sl [2] _ #[.int .i64 2] rfl (by simp) 1 rfl) rfl).mono ?_); rintro e w11 ⟨rfl, h2⟩; have HB := Lib.hid ((HB.out.lay _).trans h2); clear h2)))
  exact HE.out _ ((HW.out).trans HB.out)
end Go.Proofs.Ytphagkpnfbdncaa.Or
