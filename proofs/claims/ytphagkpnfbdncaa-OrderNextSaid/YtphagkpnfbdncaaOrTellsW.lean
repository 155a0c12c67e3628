/-
  The walk of the statement on what orders tell. Not a statement of the seat.
-/
import Derived.Test.YtphagkpnfbdncaaOrLives
namespace Go.Proofs.Ytphagkpnfbdncaa.Or
open Go.ChangeShapes Go.WideShapes Go.ChangeAt Go.RowKit Base Lst
/-- The world on the way: all lists of ints and of pairs that are known. -/
def ST (w W : World) (l : List (Value × List Int)) (m : List (Value × List F.Pai)) : Prop := Aft w W ∧ (∀ p ∈ l, SL W p.1 p.2) ∧ ∀ p ∈ m, F.Pais 0 W p.1 p.2
theorem ST.aft {w W W' : World} {l : List (Value × List Int)} {m : List (Value × List F.Pai)} (h : ST w W l m) (hw : Aft W W') : ST w W' l m := ⟨h.1.trans hw, fun p hp => (h.2.1 p hp).aft hw, fun p hp => (h.2.2 p hp).below hw⟩
theorem ST.addI {w W : World} {l : List (Value × List Int)} {m : List (Value × List F.Pai)} (h : ST w W l m) {v : Value} {xs : List Int} (hv : SL W v xs) : ST w W ((v, xs) :: l) m := ⟨h.1, fun p hp => by
  rcases List.mem_cons.1 hp with rfl | hp
  · exact hv
  · exact h.2.1 p hp, h.2.2⟩
theorem ST.addP {w W : World} {l : List (Value × List Int)} {m : List (Value × List F.Pai)} (h : ST w W l m) {v : Value} {xs : List F.Pai} (hv : F.Pais 0 W v xs) : ST w W l ((v, xs) :: m) := ⟨h.1, h.2.1, fun p hp => by
  rcases List.mem_cons.1 hp with rfl | hp
  · exact hv
  · exact h.2.2 p hp⟩
theorem ST.i {w W : World} {l : List (Value × List Int)} {m : List (Value × List F.Pai)} (h : ST w W l m) (v : Value) (xs : List Int) (hm : (v, xs) ∈ l) : SL W v xs := h.2.1 _ hm
theorem ST.p {w W : World} {l : List (Value × List Int)} {m : List (Value × List F.Pai)} (h : ST w W l m) (v : Value) (xs : List F.Pai) (hm : (v, xs) ∈ m) : F.Pais 0 W v xs := h.2.2 _ hm
theorem ST.start (w : World) : ST w w [] [] := ⟨Aft.refl w, (fun p hp => by cases hp), (fun p hp => by cases hp)⟩
theorem m0 {α : Type} {a : α} {l : List α} : a ∈ a :: l := .head _
theorem m1 {α : Type} {a b : α} {l : List α} : a ∈ b :: a :: l := .tail _ (.head _)
theorem m2 {α : Type} {a b c : α} {l : List α} : a ∈ b :: c :: a :: l := .tail _ (.tail _ (.head _))
theorem m3 {α : Type} {a b c d : α} {l : List α} : a ∈ b :: c :: d :: a :: l := .tail _ (.tail _ (.tail _ (.head _)))
theorem m4 {α : Type} {a b c d e : α} {l : List α} : a ∈ b :: c :: d :: e :: a :: l := .tail _ m3
theorem m5 {α : Type} {a b c d e f : α} {l : List α} : a ∈ b :: c :: d :: e :: f :: a :: l := .tail _ m4
theorem w_move {w : World} {v : Value} {xs : List Int} (h : SL w v xs) (hl : xs.length ≤ 65536) (x p : Int) (ys : List Int) (c : Int) (ha : Om.moveL xs x p = ys) (hb : Om.moveE xs x p = c) (hyl : ys.length ≤ 65536) : Calls Try.prog 12 #[v, .int .i64 x, .int .i64 p] w fun e w' => ∃ v', e = .returned (.tuple #[v', .int .i64 c]) ∧ SL w' v' ys ∧ Aft w w' := by
  have := rmove_any x p w h (by omega)
  rw [ha, hb] at this
  exact this.mono fun e w' ⟨v', h1, h2, h3⟩ => ⟨v', h1, own_sl h2 (by omega), h3⟩
theorem w_steps {w : World} {v u : Value} {zs ys : List Int} (h : SL w v zs) (hl : zs.length ≤ 65536) (hu : SL w u ys) (hyl : ys.length ≤ 65536) (hby : Bd ys) (ps : List F.Pai) (c : Int) (ha : toPs (Om.stepsL zs ys) = ps) (hb : Om.stepsE zs ys = c) (hpl : ps.length ≤ 65536) : Calls Try.prog 14 #[v, u] w fun e w' => ∃ v', e = .returned (.tuple #[v', .int .i64 c]) ∧ F.Pais 0 w' v' ps ∧ Aft w w' := by
  have := rsteps_any w h hu (by omega) (by omega) hby
  rw [ha, hb] at this
  exact this.mono fun e w' ⟨v', h1, h2, h3⟩ => ⟨v', h1, (h2.list (by omega)).mono (Nat.zero_le _), h3⟩
theorem p_steps {w : World} {v u : Value} {zs ys : List Int} (h : SL w v zs) (hl : zs.length ≤ 65536) (hu : SL w u ys) (hbz : Bd zs) (hby : Bd ys) (ps : List F.Pai) (c : Int) (ha : toPs (Om.stepsL zs ys) = ps) (hb : Om.stepsE zs ys = c) (hpl : ps.length ≤ 65536) : Calls Try.prog 13 #[v, u] w fun e w' => ∃ v', e = .returned (.tuple #[v', .int .i64 c]) ∧ F.Pais 0 w' v' ps ∧ Aft w w' := by
  have := steps_any w h.1 hu.1.1 (by omega) hbz hby
  rw [ha, hb] at this
  exact this.mono fun e w' ⟨v', h1, h2, h3⟩ => ⟨v', h1, (h2.list (by omega)).mono (Nat.zero_le _), h3⟩
theorem w_with {w : World} {v : Value} {zs : List Int} (h : SL w v zs) (hl : zs.length ≤ 65536) (x : Int) (ys : List Int) (ha : Om.withL zs x = ys) (hyl : ys.length ≤ 65537) : Calls Try.prog 23 #[v, .int .i64 x] w fun e w' => ∃ v', e = .returned v' ∧ SL w' v' ys ∧ Aft w w' := by
  have := rwith_any x w h (by omega)
  rw [ha] at this
  exact this.mono fun e w' ⟨v', h1, h2, h3⟩ => ⟨v', h1, own_sl h2 (by omega), h3⟩
theorem w_without {w : World} {v : Value} {zs : List Int} (h : SL w v zs) (hl : zs.length ≤ 65536) (x : Int) (ys : List Int) (ha : Om.without zs x = ys) : Calls Try.prog 25 #[v, .int .i64 x] w fun e w' => ∃ v', e = .returned v' ∧ SL w' v' ys ∧ Aft w w' := by
  have := rwithout_any x w h.1.1 (by omega)
  rw [ha] at this
  have hl2 : ys.length ≤ 65536 := by rw [← ha]; exact Nat.le_trans (List.length_filter_le _ _) hl
  exact this.mono fun e w' ⟨v', h1, h2, h3⟩ => ⟨v', h1, own_sl h2 (by omega), h3⟩
theorem w_sameI {w : World} {v u : Value} {zs : List Int} (h : SL w v zs) (hu : SL w u zs) : Calls Try.prog 15 #[v, u] w fun e w' => e = .returned (.bool true) ∧ Aft w w' :=
  (sameInts_yes h.1.1 hu.1.1).mono fun e w' ⟨h1, q, h2⟩ => ⟨h1, by rw [h2]; exact (Aft.refl w).drew q⟩
theorem w_sameB {w : World} {v u : Value} {zs ys : List Int} (h : SL w v zs) (hu : SL w u ys) (b : Bool) (hb : decide (zs = ys) = b) : Calls Try.prog 15 #[v, u] w fun e w' => e = .returned (.bool b) ∧ Aft w w' := by
  rw [← hb]
  exact (sameInts_ints h.1.1 hu.1.1).mono fun e w' ⟨h1, q, h2⟩ => ⟨h1, by rw [h2]; exact (Aft.refl w).drew q⟩
theorem p_sameB {w : World} {v u : Value} {zs ys : List Int} (h : SL w v zs) (hu : SL w u ys) (b : Bool) (hb : decide (zs = ys) = b) : Calls Try.prog 21 #[v, u] w fun e w' => e = .returned (.bool b) ∧ Aft w w' := by
  rw [← hb]
  exact (same_any h.1.1 hu.1.1).mono fun e w' ⟨h1, q, h2⟩ => ⟨h1, by rw [h2]; exact (Aft.refl w).drew q⟩
theorem w_right {w : World} {v : Value} {zs : List Int} (h : SL w v zs) (hl : zs.length ≤ 65536) (b : Bool) (hb : Om.rightB zs = b) : Calls Try.prog 18 #[v] w fun e w' => e = .returned (.bool b) ∧ w = w' := by
  rw [← hb]
  exact rright_any w h.1 (by omega)
theorem w_perm {w : World} {v u : Value} {zs ys : List Int} (h : SL w v zs) (hl : zs.length ≤ 65536) (hu : SL w u ys) (b : Bool) (hb : Om.permB zs ys = b) : Calls Try.prog 20 #[v, u] w fun e w' => e = .returned (.bool b) ∧ w = w' := by
  rw [← hb]
  exact rperm_any w h.1.1 hu.1.1 (by omega)
theorem move_len (xs : List Int) (x p : Int) : (Om.moveL xs x p).length ≤ xs.length := by
  unfold Om.moveL
  split
  · rename_i h
    rw [Om.mv_length _ _ _ _ (List.idxOf_lt_length_of_mem h.1) (by omega)]
    exact Nat.le_refl _
  · simp
theorem steps_len (xs ys : List Int) : (toPs (Om.stepsL xs ys)).length ≤ ys.length := by
  unfold toPs Om.stepsL
  rw [List.length_map]
  split
  · exact Om.steps_bound _ _ _
  · simp
theorem with_len (xs : List Int) (x : Int) : (Om.withL xs x).length ≤ xs.length + 1 := by
  unfold Om.withL
  split <;> simp
set_option maxRecDepth 100000 in
set_option maxHeartbeats 4000000 in
theorem tells_far (v u : Value) (p q : Option Addr) (m n c d : Nat) (tx place : Int) (w : World) (hv : v = .slice p m c) (hu : u = .slice q n d) (h : 60 < m ∨ 60 < n) (hm : m ≤ 9223372036854775807) (hn : n ≤ 9223372036854775807) :
    Calls Try.prog 3 #[v, u, .int .i64 tx, .int .i64 place] w (LivesP w) := by
  subst hv hu
  have HL := Lib.hid (lives w)
  have HE : Hid (∀ w', Aft w w' → LivesP w (.returned (.bool true)) w') := Lib.hid fun w' h => ⟨rfl, h⟩
  generalize hP : LivesP w = Post at HE ⊢
  have HL2 : Hid (Calls Try.prog 6 #[] w fun e w' => e = .returned (.bool true) ∧ Aft w w') := HL
  clear HL hP
  by_cases h1 : 60 < m
  · have h1' : (60 : Int) < (m : Int) := by omega
    clear h
    go_enter Try.func3, Try.ntmps3
    go_wp2_with (go_at_call 6; refine HL2.out.mono ?_; rintro e w' ⟨rfl, h2⟩; have H2 := Lib.hid h2; clear h2)
    exact HE.out _ H2.out
  · have h2 : 60 < n := by omega
    have h1' : ¬ (60 : Int) < (m : Int) := by omega
    have h2' : (60 : Int) < (n : Int) := by omega
    clear h
    go_enter Try.func3, Try.ntmps3
    go_wp2_with (go_at_call 6; refine HL2.out.mono ?_; rintro e w' ⟨rfl, h2⟩; have H2 := Lib.hid h2; clear h2)
    exact HE.out _ H2.out
set_option maxRecDepth 100000 in
set_option maxHeartbeats 4000000 in
theorem tells_near (v u : Value) (xs ys : List Int) (tx place : Int) (w : World) (hv : SL w v xs) (hu : SL w u ys) (hbx : Bd xs) (hby : Bd ys) (hpl : -9223372036854775808 ≤ place ∧ place ≤ 9223372036854775807) (h1 : xs.length ≤ 60) (h2 : ys.length ≤ 60) :
    Calls Try.prog 3 #[v, u, .int .i64 tx, .int .i64 place] w (LivesP w) := by
  have HE : Hid (∀ w', Aft w w' → LivesP w (.returned (.bool true)) w') := Lib.hid fun w' h => ⟨rfl, h⟩
  have HL : Hid (∀ w, Calls Try.prog 6 #[] w fun e w' => e = .returned (.bool true) ∧ Aft w w') := Lib.hid fun w => lives w
  have HS : Hid (ST w w [(v, xs), (u, ys)] []) := Lib.hid (((ST.start w).addI hu).addI hv)
  have HBX := Lib.hid hbx
  have HBY := Lib.hid hby
  obtain ⟨na, hna⟩ : ∃ x, Om.nextV xs tx = x := ⟨_, rfl⟩
  obtain ⟨nb, hnb⟩ : ∃ x, Om.nextB xs tx = x := ⟨_, rfl⟩
  obtain ⟨pa, hpa⟩ : ∃ x, Om.prevV xs tx = x := ⟨_, rfl⟩
  obtain ⟨pb, hpb⟩ : ∃ x, Om.prevB xs tx = x := ⟨_, rfl⟩
  obtain ⟨ml, hml⟩ : ∃ x, Om.moveL xs tx place = x := ⟨_, rfl⟩
  obtain ⟨me, hme⟩ : ∃ x, Om.moveE xs tx place = x := ⟨_, rfl⟩
  obtain ⟨sl, hsl⟩ : ∃ x, toPs (Om.stepsL xs ys) = x := ⟨_, rfl⟩
  obtain ⟨se, hse⟩ : ∃ x, Om.stepsE xs ys = x := ⟨_, rfl⟩
  obtain ⟨rb, hrb⟩ : ∃ x, Om.rightB xs = x := ⟨_, rfl⟩
  obtain ⟨qb, hqb⟩ : ∃ x, Om.permB xs ys = x := ⟨_, rfl⟩
  obtain ⟨eb, heb⟩ : ∃ x, decide (xs = ys) = x := ⟨_, rfl⟩
  obtain ⟨wl, hwl⟩ : ∃ x, Om.withL xs tx = x := ⟨_, rfl⟩
  obtain ⟨ol, hol⟩ : ∃ x, Om.without xs tx = x := ⟨_, rfl⟩
  have hmll : ml.length ≤ 65536 := by rw [← hml]; have := move_len xs tx place; omega
  have hsll : sl.length ≤ 65536 := by rw [← hsl]; have := steps_len xs ys; omega
  have hwll : wl.length ≤ 65537 := by rw [← hwl]; have := with_len xs tx; omega
  have HNA := Lib.hid hna
  have HNB := Lib.hid hnb
  have HPA := Lib.hid hpa
  have HPB := Lib.hid hpb
  have HML := Lib.hid hml
  have HME := Lib.hid hme
  have HSL := Lib.hid hsl
  have HSE := Lib.hid hse
  have HRB := Lib.hid hrb
  have HQB := Lib.hid hqb
  have HEB := Lib.hid heb
  have HWL := Lib.hid hwl
  have HOL := Lib.hid hol
  have h1l : xs.length ≤ 65536 := by omega
  have h2l : ys.length ≤ 65536 := by omega
  obtain ⟨⟨_, p, c, rfl, _⟩, _⟩ := hv
  obtain ⟨⟨_, q, d, rfl, _⟩, _⟩ := hu
  have h1' : ¬ (60 : Int) < (xs.length : Int) := by omega
  have h2' : ¬ (60 : Int) < (ys.length : Int) := by omega
  clear hna hnb hpa hpb hml hme hsl hse hrb hqb heb hwl hol hbx hby
  generalize LivesP w = Post at HE ⊢
  go_enter Try.func3, Try.ntmps3
  go_wp2_with (first
    | (go_at_call 7; ((with_reducible refine (l_next (HS.out.i _ xs m0) h1l (Aft.refl _) tx na nb HNA.out HNB.out).mono ?_); rintro e w' ⟨rfl, rfl⟩))
    | (go_at_call 8; ((refine (rnext_any tx _ (HS.out.i _ xs m0).1.1 (by omega)).mono ?_); rw [HNA.out, HNB.out]; rintro e w' ⟨rfl, rfl⟩))
    | (go_at_call 9; ((with_reducible refine (l_prev (HS.out.i _ xs m0) h1l (Aft.refl _) tx pa pb HPA.out HPB.out).mono ?_); rintro e w' ⟨rfl, rfl⟩))
    | (go_at_call 10; ((refine (rprev_any tx _ (HS.out.i _ xs m0).1.1 (by omega)).mono ?_); rw [HPA.out, HPB.out]; rintro e w' ⟨rfl, rfl⟩))
    | (go_at_call 11; ((with_reducible refine (l_move (HS.out.i _ xs m0) h1l (Aft.refl _) tx place hpl ml me HML.out HME.out hmll).mono ?_); rintro e w1 ⟨v17, rfl, h1, h2⟩; have HS1 := Lib.hid ((HS.out.aft h2).addI h1); clear h1 h2)))
  go_wp2_with (first
    | (go_at_call 12; ((with_reducible refine (w_move (HS1.out.i _ xs m1) h1l tx place ml me HML.out HME.out hmll).mono ?_); rintro e w2 ⟨v19, rfl, h1, h2⟩; have HS2 := Lib.hid ((HS1.out.aft h2).addI h1); clear h1 h2))
    | (go_at_call 13; ((with_reducible refine (p_steps (HS2.out.i _ xs m2) h1l (HS2.out.i _ ys m3) HBX.out HBY.out sl se HSL.out HSE.out hsll).mono ?_); rintro e w3 ⟨v21, rfl, h1, h2⟩; have HS3 := Lib.hid ((HS2.out.aft h2).addP h1); clear h1 h2))
    | (go_at_call 14; ((with_reducible refine (w_steps (HS3.out.i _ xs m2) h1l (HS3.out.i _ ys m3) h2l HBY.out sl se HSL.out HSE.out hsll).mono ?_); rintro e w4 ⟨v23, rfl, h1, h2⟩; have HS4 := Lib.hid ((HS3.out.aft h2).addP h1); clear h1 h2))
    | (go_at_call 15; ((with_reducible refine (w_sameI (HS4.out.i _ ml m1) (HS4.out.i _ ml m0)).mono ?_); rintro e w5 ⟨rfl, h2⟩; have HS5 := Lib.hid (HS4.out.aft h2); clear h2))
    | (go_at_call 16; ((with_reducible refine (l_psame (HS5.out.p _ sl m1) (Aft.refl _) (HS5.out.p _ sl m0) hsll rfl).mono ?_); rintro e w6 ⟨rfl, h2⟩; have HS6 := Lib.hid (HS5.out.aft h2); clear h2)))
  go_wp2_with (first
    | (go_at_call 17; ((with_reducible refine (l_right (HS6.out.i _ xs m2) h1l (Aft.refl _) HBX.out rb HRB.out).mono ?_); rintro e w7 ⟨rfl, h2⟩; have HS7 := Lib.hid (HS6.out.aft h2); clear h2))
    | (go_at_call 18; ((with_reducible refine (w_right (HS7.out.i _ xs m2) h1l rb HRB.out).mono ?_); rintro e w8 ⟨rfl, rfl⟩; skip))
    | (go_at_call 19; ((with_reducible refine (l_perm (HS7.out.i _ xs m2) h1l (Aft.refl _) (HS7.out.i _ ys m3) HBX.out HBY.out qb HQB.out).mono ?_); rintro e w7 ⟨rfl, h2⟩; have HS8 := Lib.hid (HS7.out.aft h2); clear h2))
    | (go_at_call 20; ((with_reducible refine (w_perm (HS8.out.i _ xs m2) h1l (HS8.out.i _ ys m3) qb HQB.out).mono ?_); rintro e w8 ⟨rfl, rfl⟩; skip))
    | (go_at_call 21; ((with_reducible refine (p_sameB (HS8.out.i _ xs m2) (HS8.out.i _ ys m3) eb HEB.out).mono ?_); rintro e w9 ⟨rfl, h2⟩; have HS9 := Lib.hid (HS8.out.aft h2); clear h2))
    | (go_at_call 15; ((with_reducible refine (w_sameB (HS9.out.i _ xs m2) (HS9.out.i _ ys m3) eb HEB.out).mono ?_); rintro e w9 ⟨rfl, h2⟩; have HS10 := Lib.hid (HS9.out.aft h2); clear h2))
    | (go_at_call 22; ((with_reducible refine (l_with (HS10.out.i _ xs m2) h1l (Aft.refl _) tx wl HWL.out hwll).mono ?_); rintro e w11 ⟨v150, rfl, h1, h2⟩; have HS11 := Lib.hid ((HS10.out.aft h2).addI h1); clear h1 h2))
    | (go_at_call 23; ((with_reducible refine (w_with (HS11.out.i _ xs m3) h1l tx wl HWL.out hwll).mono ?_); rintro e w12 ⟨v153, rfl, h1, h2⟩; have HS12 := Lib.hid ((HS11.out.aft h2).addI h1); clear h1 h2))
    | (go_at_call 15; ((with_reducible refine (w_sameI (HS12.out.i _ wl m1) (HS12.out.i _ wl m0)).mono ?_); rintro e w13 ⟨rfl, h2⟩; have HS13 := Lib.hid (HS12.out.aft h2); clear h2))
    | (go_at_call 24; ((with_reducible refine (l_without (HS13.out.i _ xs m4) h1l (Aft.refl _) tx ol HOL.out).mono ?_); rintro e w14 ⟨v159, rfl, h1, h2⟩; have HS14 := Lib.hid ((HS13.out.aft h2).addI h1); clear h1 h2))
    | (go_at_call 25; ((with_reducible refine (w_without (HS14.out.i _ xs m5) h1l tx ol HOL.out).mono ?_); rintro e w15 ⟨v162, rfl, h1, h2⟩; have HS15 := Lib.hid ((HS14.out.aft h2).addI h1); clear h1 h2))
    | (go_at_call 15; ((with_reducible refine (w_sameI (HS15.out.i _ ol m1) (HS15.out.i _ ol m0)).mono ?_); rintro e w16 ⟨rfl, h2⟩; have HS16 := Lib.hid (HS15.out.aft h2); clear h2))
    | (go_at_call 6; ((with_reducible refine (HL.out _).mono ?_); rintro e w17 ⟨rfl, h2⟩; have HS17 := Lib.hid (HS16.out.aft h2); clear h2)))
  exact HE.out _ HS17.out.1
end Go.Proofs.Ytphagkpnfbdncaa.Or
