/-
  Contract of the program's reading of operations: Read. Not a statement of the seat.
-/
import Derived.Test.YtaogofjnpnheeaaGreatDoorOpPar
import Derived.Test.YtaogofjnpnheeaaGreatDoorOpRef3
namespace Go.Proofs.YtaogofjnpnheeaaGreatDoor.Op
open Go.ChangeShapes Go.WideShapes Go.ChangeAt Go.RowKit Base Nu F Go.Lib Lst
theorem read_par (l : List UInt8) : readO l = if (parO l).2.2 ≠ 0 then (Opr.zero, (parO l).2.2) else if (parO l).1.rd && ((parO l).2.1 != decide ((parO l).1.t ≠ 0)) then (Opr.zero, 5) else if rightO (parO l).1 then ((parO l).1, 0) else (Opr.zero, 1) := by
  unfold readO parO
  by_cases h1 : parts l = []
  · rw [if_pos h1, if_pos h1]; rfl
  · rw [if_neg h1, if_neg h1]
    by_cases h2 : (nums (parts l)).2 ≠ 0
    · rw [if_pos h2, if_pos h2, if_pos h2]
    · rw [if_neg h2, if_neg h2]; rfl
/-- What reading tells, out of what was said. -/
def fin (x : Opr) (dot : Bool) (why : Int) : Opr × Int := if why ≠ 0 then (Opr.zero, why) else if x.rd && (dot != decide (x.t ≠ 0)) then (Opr.zero, 5) else if rightO x then (x, 0) else (Opr.zero, 1)
set_option maxHeartbeats 8000000 in
set_option maxRecDepth 100000 in
theorem read2_any (s : ByteArray) (hs : s.size ≤ 9223372036854775807) (w : World) : Calls Tryz.prog 7 #[.string s] w (RdPost s.data.toList w) := by
  have HPA : Hid (∀ w, Calls Tryz.prog 24 #[.string s] w (ParPost s.data.toList w)) := Lib.hid fun w => parse_any s hs w
  unfold ParPost at HPA
  unfold RdPost
  have hr : readO s.data.toList = fin (parO s.data.toList).1 (parO s.data.toList).2.1 (parO s.data.toList).2.2 := read_par _
  rw [hr]
  clear hr
  generalize parO s.data.toList = q at HPA ⊢
  obtain ⟨x, dot, why⟩ := q
  simp only at HPA ⊢
  have HR := Lib.hid (fun w => right_any x w)
  have HRA : Hid (∀ w', Below w.heap.size w w' → ∀ y e, fin x dot why = (y, e) → (Ending.returned (.tuple #[.agg #[.bool y.rd, .int .i64 y.k, .int .i64 y.t, .int .i64 y.n], .int .i64 e]) = Ending.returned (.tuple #[.agg #[.bool (fin x dot why).1.rd, .int .i64 (fin x dot why).1.k, .int .i64 (fin x dot why).1.t, .int .i64 (fin x dot why).1.n], .int .i64 (fin x dot why).2])) ∧ Below w.heap.size w w') := Lib.hid fun w' hb y e h => by rw [h]; exact ⟨rfl, hb⟩
  have HE1 : Hid (why ≠ 0 → fin x dot why = (Opr.zero, why)) := Lib.hid fun h => if_pos h
  have HE2 : Hid (why = 0 → (x.rd && (dot != decide (x.t ≠ 0))) = true → fin x dot why = (Opr.zero, 5)) := Lib.hid fun h h2 => by unfold fin; rw [if_neg (by simp [h]), if_pos h2]
  have HE3 : Hid (why = 0 → (x.rd && (dot != decide (x.t ≠ 0))) = false → rightO x = false → fin x dot why = (Opr.zero, 1)) := Lib.hid fun h h2 h3 => by unfold fin; rw [if_neg (by simp [h]), h2, h3]; rfl
  have HE4 : Hid (why = 0 → (x.rd && (dot != decide (x.t ≠ 0))) = false → rightO x = true → fin x dot why = (x, 0)) := Lib.hid fun h h2 h3 => by unfold fin; rw [if_neg (by simp [h]), h2, h3]; rfl
  generalize fin x dot why = r at HRA HE1 HE2 HE3 HE4 ⊢
  go_enter Tryz.func7, Tryz.ntmps7
  go_wp2_with fail
  refine (HPA.out _).mono ?_
  rintro e w2 ⟨rfl, hb⟩
  have hbx : w2.heap[w.heap.size]? = some (boxO Opr.zero) := (hb.block w.heap.size (by simp)).trans (heap_alloc_at w (boxO Opr.zero) _ rfl)
  have hbw : Below w.heap.size w w2 := ((Below.refl _ _).alloc (Nat.le_refl _) _).trans (hb.mono (by simp))
  have HK : Hid (∀ X, Below w2.heap.size w2 X → X.heap[w.heap.size]? = some (boxO Opr.zero) ∧ Below w.heap.size w X) := Lib.hid fun X hX => ⟨(hX.block _ (heap_lt hbx)).trans hbx, hbw.trans (hX.mono hbw.size)⟩
  clear hbx hbw hb
  by_cases hw : why = 0
  case neg =>
    have heb : (why != 0) = true := by rw [bne_iff_ne]; exact hw
    have HP := Lib.hid (fun w' hb => HRA.out w' hb _ _ (HE1.out hw))
    clear HE1 HE2 HE3 HE4 HRA hw
    go_wp2_with (refine wpList_store_opr rfl (.tmp 2) (.tmp 16) rfl w.heap.size Opr.zero Opr.zero rfl rfl (HK.out _ (by go_grown)).1 ?_; intro w4 hst; obtain ⟨_, ⟨x0, x1, x2, x3⟩, _⟩ := cellsO hst.2.2.2.2.1; have HB4 := Lib.hid (hst.below (HK.out _ (by go_grown)).2 (Nat.le_refl _)); clear hst)
    refine bodyPost_ret (v := .tuple #[.agg #[.bool false, .int .i64 0, .int .i64 0, .int .i64 0], .int .i64 why]) (by simp [results, Tryz.results7, go_sem, x0, x1, x2, x3, Opr.zero]) rfl (HP.out _ HB4.out)
  subst hw
  have HE2' := Lib.hid (HE2.out rfl)
  have HE3' := Lib.hid (HE3.out rfl)
  have HE4' := Lib.hid (HE4.out rfl)
  clear HE1 HE2 HE3 HE4
  obtain ⟨rd, k, t, n⟩ := x
  simp only at *
  cases rd
  · have hq : (false && (dot != decide (t ≠ 0))) = false := rfl
    cases hR : rightO ⟨false, k, t, n⟩
    · have HP := Lib.hid (fun w' hb => HRA.out w' hb _ _ (HE3'.out hq hR))
      have hy : whyO ⟨false, k, t, n⟩ = 1 := by unfold whyO; rw [hR]; rfl
      rw [hy] at HR
      clear HE2' HE3' HE4' HRA hR hy
      go_wp2_with (first | (go_at_call 18; refine (HR.out _).mono ?_; rintro e w5 ⟨rfl, hb5⟩; have HK5 : Hid (∀ X, Below w5.heap.size w5 X → X.heap[w.heap.size]? = some (boxO Opr.zero) ∧ Below w.heap.size w X) := Lib.hid fun X hX => HK.out X (bel1 (hb5.trans (hX.mono hb5.size))); clear hb5) | (refine wpList_store_opr rfl (.tmp 2) (.tmp 32) rfl w.heap.size Opr.zero Opr.zero rfl rfl (HK5.out _ (Below.refl _ _)).1 ?_; intro w4 hst; obtain ⟨_, ⟨x0, x1, x2, x3⟩, _⟩ := cellsO hst.2.2.2.2.1; have HB4 := Lib.hid (hst.below (HK5.out _ (Below.refl _ _)).2 (Nat.le_refl _)); clear hst))
      refine bodyPost_ret (v := .tuple #[.agg #[.bool false, .int .i64 0, .int .i64 0, .int .i64 0], .int .i64 1]) (by simp [results, Tryz.results7, go_sem, x0, x1, x2, x3, Opr.zero]) rfl (HP.out _ HB4.out)
    · have HP := Lib.hid (fun w' hb => HRA.out w' hb _ _ (HE4'.out hq hR))
      have hy : whyO ⟨false, k, t, n⟩ = 0 := by unfold whyO; rw [hR]; rfl
      rw [hy] at HR
      clear HE2' HE3' HE4' HRA hR hy
      go_wp2_with (first | (go_at_call 18; refine (HR.out _).mono ?_; rintro e w5 ⟨rfl, hb5⟩; have HK5 : Hid (∀ X, Below w5.heap.size w5 X → X.heap[w.heap.size]? = some (boxO Opr.zero) ∧ Below w.heap.size w X) := Lib.hid fun X hX => HK.out X (bel1 (hb5.trans (hX.mono hb5.size))); have HX5 : Hid (w5.heap[w2.heap.size]? = some (boxO ⟨false, k, t, n⟩)) := Lib.hid ((hb5.block w2.heap.size (by simp)).trans (heap_alloc_at w2 (boxO ⟨false, k, t, n⟩) _ rfl)); obtain ⟨_, ⟨z0, z1, z2, z3⟩, _⟩ := cellsO HX5.out; clear hb5) | (refine wpList_store_opr rfl (.tmp 2) (.tmp 34) rfl w.heap.size ⟨false, k, t, n⟩ Opr.zero rfl rfl (HK5.out _ (Below.refl _ _)).1 ?_; intro w4 hst; obtain ⟨_, ⟨x0, x1, x2, x3⟩, _⟩ := cellsO hst.2.2.2.2.1; have HB4 := Lib.hid (hst.below (HK5.out _ (Below.refl _ _)).2 (Nat.le_refl _)); clear hst))
      refine bodyPost_ret (v := .tuple #[.agg #[.bool false, .int .i64 k, .int .i64 t, .int .i64 n], .int .i64 0]) (by simp [results, Tryz.results7, go_sem, x0, x1, x2, x3]) rfl (HP.out _ HB4.out)
  · by_cases ht : t = 0
    · subst ht
      have h0 : ((0 : Int) != 0) = false := rfl
      cases dot
      · cases hR : rightO ⟨true, k, 0, n⟩
        · have HP := Lib.hid (fun w' hb => HRA.out w' hb _ _ (HE3'.out (by simp) hR))
          have hy : whyO ⟨true, k, 0, n⟩ = 1 := by unfold whyO; rw [hR]; rfl
          rw [hy] at HR
          clear HE2' HE3' HE4' HRA hR hy
          go_wp2_with (first | (go_at_call 18; refine (HR.out _).mono ?_; rintro e w5 ⟨rfl, hb5⟩; have HK5 : Hid (∀ X, Below w5.heap.size w5 X → X.heap[w.heap.size]? = some (boxO Opr.zero) ∧ Below w.heap.size w X) := Lib.hid fun X hX => HK.out X (bel1 (hb5.trans (hX.mono hb5.size))); clear hb5) | (refine wpList_store_opr rfl (.tmp 2) (.tmp 32) rfl w.heap.size Opr.zero Opr.zero rfl rfl (HK5.out _ (Below.refl _ _)).1 ?_; intro w4 hst; obtain ⟨_, ⟨x0, x1, x2, x3⟩, _⟩ := cellsO hst.2.2.2.2.1; have HB4 := Lib.hid (hst.below (HK5.out _ (Below.refl _ _)).2 (Nat.le_refl _)); clear hst))
          refine bodyPost_ret (v := .tuple #[.agg #[.bool false, .int .i64 0, .int .i64 0, .int .i64 0], .int .i64 1]) (by simp [results, Tryz.results7, go_sem, x0, x1, x2, x3, Opr.zero]) rfl (HP.out _ HB4.out)
        · have HP := Lib.hid (fun w' hb => HRA.out w' hb _ _ (HE4'.out (by simp) hR))
          have hy : whyO ⟨true, k, 0, n⟩ = 0 := by unfold whyO; rw [hR]; rfl
          rw [hy] at HR
          clear HE2' HE3' HE4' HRA hR hy
          go_wp2_with (first | (go_at_call 18; refine (HR.out _).mono ?_; rintro e w5 ⟨rfl, hb5⟩; have HK5 : Hid (∀ X, Below w5.heap.size w5 X → X.heap[w.heap.size]? = some (boxO Opr.zero) ∧ Below w.heap.size w X) := Lib.hid fun X hX => HK.out X (bel1 (hb5.trans (hX.mono hb5.size))); have HX5 : Hid (w5.heap[w2.heap.size]? = some (boxO ⟨true, k, 0, n⟩)) := Lib.hid ((hb5.block w2.heap.size (by simp)).trans (heap_alloc_at w2 (boxO ⟨true, k, 0, n⟩) _ rfl)); obtain ⟨_, ⟨z0, z1, z2, z3⟩, _⟩ := cellsO HX5.out; clear hb5) | (refine wpList_store_opr rfl (.tmp 2) (.tmp 34) rfl w.heap.size ⟨true, k, 0, n⟩ Opr.zero rfl rfl (HK5.out _ (Below.refl _ _)).1 ?_; intro w4 hst; obtain ⟨_, ⟨x0, x1, x2, x3⟩, _⟩ := cellsO hst.2.2.2.2.1; have HB4 := Lib.hid (hst.below (HK5.out _ (Below.refl _ _)).2 (Nat.le_refl _)); clear hst))
          refine bodyPost_ret (v := .tuple #[.agg #[.bool true, .int .i64 k, .int .i64 0, .int .i64 n], .int .i64 0]) (by simp [results, Tryz.results7, go_sem, x0, x1, x2, x3]) rfl (HP.out _ HB4.out)
      · have HP := Lib.hid (fun w' hb => HRA.out w' hb _ _ (HE2'.out (by simp)))
        clear HE2' HE3' HE4' HRA
        go_wp2_with (refine wpList_store_opr rfl (.tmp 2) (.tmp 27) rfl w.heap.size Opr.zero Opr.zero rfl rfl (HK.out _ (by go_grown)).1 ?_; intro w4 hst; obtain ⟨_, ⟨x0, x1, x2, x3⟩, _⟩ := cellsO hst.2.2.2.2.1; have HB4 := Lib.hid (hst.below (HK.out _ (by go_grown)).2 (Nat.le_refl _)); clear hst)
        refine bodyPost_ret (v := .tuple #[.agg #[.bool false, .int .i64 0, .int .i64 0, .int .i64 0], .int .i64 5]) (by simp [results, Tryz.results7, go_sem, x0, x1, x2, x3, Opr.zero]) rfl (HP.out _ HB4.out)
    · have h0 : (t != 0) = true := by rw [bne_iff_ne]; exact ht
      cases dot
      · have HP := Lib.hid (fun w' hb => HRA.out w' hb _ _ (HE2'.out (by simp [ht])))
        clear HE2' HE3' HE4' HRA
        go_wp2_with (refine wpList_store_opr rfl (.tmp 2) (.tmp 27) rfl w.heap.size Opr.zero Opr.zero rfl rfl (HK.out _ (by go_grown)).1 ?_; intro w4 hst; obtain ⟨_, ⟨x0, x1, x2, x3⟩, _⟩ := cellsO hst.2.2.2.2.1; have HB4 := Lib.hid (hst.below (HK.out _ (by go_grown)).2 (Nat.le_refl _)); clear hst)
        refine bodyPost_ret (v := .tuple #[.agg #[.bool false, .int .i64 0, .int .i64 0, .int .i64 0], .int .i64 5]) (by simp [results, Tryz.results7, go_sem, x0, x1, x2, x3, Opr.zero]) rfl (HP.out _ HB4.out)
      · cases hR : rightO ⟨true, k, t, n⟩
        · have HP := Lib.hid (fun w' hb => HRA.out w' hb _ _ (HE3'.out (by simp [ht]) hR))
          have hy : whyO ⟨true, k, t, n⟩ = 1 := by unfold whyO; rw [hR]; rfl
          rw [hy] at HR
          clear HE2' HE3' HE4' HRA hR hy
          go_wp2_with (first | (go_at_call 18; refine (HR.out _).mono ?_; rintro e w5 ⟨rfl, hb5⟩; have HK5 : Hid (∀ X, Below w5.heap.size w5 X → X.heap[w.heap.size]? = some (boxO Opr.zero) ∧ Below w.heap.size w X) := Lib.hid fun X hX => HK.out X (bel1 (hb5.trans (hX.mono hb5.size))); clear hb5) | (refine wpList_store_opr rfl (.tmp 2) (.tmp 32) rfl w.heap.size Opr.zero Opr.zero rfl rfl (HK5.out _ (Below.refl _ _)).1 ?_; intro w4 hst; obtain ⟨_, ⟨x0, x1, x2, x3⟩, _⟩ := cellsO hst.2.2.2.2.1; have HB4 := Lib.hid (hst.below (HK5.out _ (Below.refl _ _)).2 (Nat.le_refl _)); clear hst))
          refine bodyPost_ret (v := .tuple #[.agg #[.bool false, .int .i64 0, .int .i64 0, .int .i64 0], .int .i64 1]) (by simp [results, Tryz.results7, go_sem, x0, x1, x2, x3, Opr.zero]) rfl (HP.out _ HB4.out)
        · have HP := Lib.hid (fun w' hb => HRA.out w' hb _ _ (HE4'.out (by simp [ht]) hR))
          have hy : whyO ⟨true, k, t, n⟩ = 0 := by unfold whyO; rw [hR]; rfl
          rw [hy] at HR
          clear HE2' HE3' HE4' HRA hR hy
          go_wp2_with (first | (go_at_call 18; refine (HR.out _).mono ?_; rintro e w5 ⟨rfl, hb5⟩; have HK5 : Hid (∀ X, Below w5.heap.size w5 X → X.heap[w.heap.size]? = some (boxO Opr.zero) ∧ Below w.heap.size w X) := Lib.hid fun X hX => HK.out X (bel1 (hb5.trans (hX.mono hb5.size))); have HX5 : Hid (w5.heap[w2.heap.size]? = some (boxO ⟨true, k, t, n⟩)) := Lib.hid ((hb5.block w2.heap.size (by simp)).trans (heap_alloc_at w2 (boxO ⟨true, k, t, n⟩) _ rfl)); obtain ⟨_, ⟨z0, z1, z2, z3⟩, _⟩ := cellsO HX5.out; clear hb5) | (refine wpList_store_opr rfl (.tmp 2) (.tmp 34) rfl w.heap.size ⟨true, k, t, n⟩ Opr.zero rfl rfl (HK5.out _ (Below.refl _ _)).1 ?_; intro w4 hst; obtain ⟨_, ⟨x0, x1, x2, x3⟩, _⟩ := cellsO hst.2.2.2.2.1; have HB4 := Lib.hid (hst.below (HK5.out _ (Below.refl _ _)).2 (Nat.le_refl _)); clear hst))
          refine bodyPost_ret (v := .tuple #[.agg #[.bool true, .int .i64 k, .int .i64 t, .int .i64 n], .int .i64 0]) (by simp [results, Tryz.results7, go_sem, x0, x1, x2, x3]) rfl (HP.out _ HB4.out)
end Go.Proofs.YtaogofjnpnheeaaGreatDoor.Op
