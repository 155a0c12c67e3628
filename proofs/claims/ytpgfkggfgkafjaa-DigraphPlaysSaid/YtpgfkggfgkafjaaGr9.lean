/-
  Contracts of digraphs: Has of an arc that is not right, Drop's refusals. Not a statement of the seat.
-/
import Derived.Test.YtpgfkggfgkafjaaHead10
import Derived.Deep.RegionHeld3
namespace Go.Proofs.Ytpgfkggfgkafjaa.Gr
open Go.ChangeShapes Go.WideShapes Go.ChangeAt Go.RowKit Base Ro F Dl Ln
set_option maxHeartbeats 4000000 in
set_option maxRecDepth 100000 in
theorem has_bad {w : World} {m n : Nat} {pv : Value} (h : GrV w pv m n) {f t k l : Int} (hr : ¬ rightA n f t k l) : Calls Try.prog 17 #[pv, .agg #[.int .i64 f, .int .i64 t, .int .i64 k, .int .i64 l]] w (HeldP (.bool false) w) := by
  obtain ⟨D, hD⟩ : ∃ D, D = (w.alloc (.cells #[.int .i64 f, .int .i64 t, .int .i64 k, .int .i64 l] 29)).drew := ⟨_, rfl⟩
  have HBD : Hid (Below w.heap.size w D) := Lib.hid (by rw [hD]; exact below_drewN ((Below.refl _ _).alloc (Nat.le_refl _) _) 1)
  have HC : Hid (∀ Z, Below D.heap.size D Z → Z.cell? ⟨w.heap.size, 0, none⟩ = some (.int .i64 f) ∧ Z.cell? ⟨w.heap.size, 1, none⟩ = some (.int .i64 t) ∧ Z.cell? ⟨w.heap.size, 2, none⟩ = some (.int .i64 k) ∧ Z.cell? ⟨w.heap.size, 3, none⟩ = some (.int .i64 l)) := Lib.hid fun Z hZ => by
    have e : D.heap[w.heap.size]? = some (.cells #[.int .i64 f, .int .i64 t, .int .i64 k, .int .i64 l] 29) := by rw [hD]; exact heap_alloc_at _ _ _ rfl
    have k := (hZ.block _ (heap_lt e)).trans e
    simp [World.cell?, k]
  have H1 := Lib.hid (isRight_any (h.below HBD.out) f t k l)
  rw [decide_eq_false hr] at H1
  clear h hr
  go_enter Try.func17, Try.ntmps17
  go_upto_region 1 with fail
  refine wp_region_held_drew (S := fun Z => Z.cell? ⟨w.heap.size, 0, none⟩ = some (.int .i64 f) ∧ Z.cell? ⟨w.heap.size, 1, none⟩ = some (.int .i64 t) ∧ Z.cell? ⟨w.heap.size, 2, none⟩ = some (.int .i64 k) ∧ Z.cell? ⟨w.heap.size, 3, none⟩ = some (.int .i64 l)) (by kernel_rfl) (hD ▸ HC.out _ (Below.refl _ _)) (fun hHeld0 => ?_)
  rw [← hD] at hHeld0 ⊢
  clear hD
  refine wpAnyH_take (i := 0) (v := ?_) rfl (by kernel_rfl) (by kernel_rfl) (by kernel_rfl) (fun _ _ _ h => h) (Or.inl ⟨by rfl, ?ya0⟩) (by assumption) ?qa0
  case ya0 => (intro wz hSw; (try dsimp only at hSw); go_simp <;> with_reducible rfl)
  try simp only [Act.put, List.getElem_toArray, List.getElem_cons_zero, List.setIfInBounds_toArray, List.set_cons_zero, List.set_cons_succ]
  refine wpAnyH_take (i := 1) (v := ?_) rfl (by kernel_rfl) (by kernel_rfl) (by kernel_rfl) (fun _ _ _ h => h) (Or.inl ⟨by rfl, ?ya1⟩) (by assumption) ?qa1
  case ya1 => (intro wz hSw; (try dsimp only at hSw); go_simp <;> with_reducible rfl)
  try simp only [Act.put, List.getElem_toArray, List.getElem_cons_zero, List.getElem_cons_succ, List.setIfInBounds_toArray, List.set_cons_zero, List.set_cons_succ]
  refine wpAnyH_ready (rs := [2]) (by kernel_rfl) (by simp) ?_
  refine AllReadyH.cons rfl (fun K hK => ?_) AllReadyH.nil
  go_simp
  refine H1.out.mono ?_
  rintro e w1 ⟨rfl, hb⟩
  have HB1 := Lib.hid (HBD.out.trans (hb.mono HBD.out.size))
  have HB2 := Lib.hid hb
  clear hb
  refine hK.out _ _ (HC.out _ HB2.out) (fun hHelda2 => ?_)
  clear hK K
  try simp only [Act.put, List.getElem_toArray, List.getElem_cons_zero, List.getElem_cons_succ, List.setIfInBounds_toArray, List.set_cons_zero, List.set_cons_succ]
  refine wpAnyH_take (i := 3) (v := ?_) rfl (by kernel_rfl) (by kernel_rfl) (by kernel_rfl) (fun _ _ _ h => h) (Or.inl ⟨by rfl, ?ya3⟩) (by assumption) ?qa3
  case ya3 => (intro wz hSw; (try dsimp only at hSw); go_simp <;> with_reducible rfl)
  try simp only [Act.put, List.getElem_toArray, List.getElem_cons_zero, List.getElem_cons_succ, List.setIfInBounds_toArray, List.set_cons_zero, List.set_cons_succ]
  refine wpAnyH_take (i := 4) (v := undef) rfl (by kernel_rfl) (by kernel_rfl) (by kernel_rfl) (fun _ _ _ h => h) (Or.inr ⟨by rfl, rfl⟩) (by assumption) ?_
  try simp only [Act.put, List.getElem_toArray, List.getElem_cons_zero, List.getElem_cons_succ, List.setIfInBounds_toArray, List.set_cons_zero, List.set_cons_succ]
  refine wpAnyH_take (i := 5) (v := undef) rfl (by kernel_rfl) (by kernel_rfl) (by kernel_rfl) (fun _ _ _ h => h) (Or.inr ⟨by rfl, rfl⟩) (by assumption) ?_
  try simp only [Act.put, List.getElem_toArray, List.getElem_cons_zero, List.getElem_cons_succ, List.setIfInBounds_toArray, List.set_cons_zero, List.set_cons_succ]
  refine wpAnyH_take (i := 6) (v := undef) rfl (by kernel_rfl) (by kernel_rfl) (by kernel_rfl) (fun _ _ _ h => h) (Or.inr ⟨by rfl, rfl⟩) (by assumption) ?_
  try simp only [Act.put, List.getElem_toArray, List.getElem_cons_zero, List.getElem_cons_succ, List.setIfInBounds_toArray, List.set_cons_zero, List.set_cons_succ]
  refine wpAnyH_take (i := 7) (v := undef) rfl (by kernel_rfl) (by kernel_rfl) (by kernel_rfl) (fun _ _ _ h => h) (Or.inr ⟨by rfl, rfl⟩) (by assumption) ?_
  try simp only [Act.put, List.getElem_toArray, List.getElem_cons_zero, List.getElem_cons_succ, List.setIfInBounds_toArray, List.set_cons_zero, List.set_cons_succ]
  refine wpAnyH_take (i := 8) (v := undef) rfl (by kernel_rfl) (by kernel_rfl) (by kernel_rfl) (fun _ _ _ h => h) (Or.inr ⟨by rfl, rfl⟩) (by assumption) ?_
  try simp only [Act.put, List.getElem_toArray, List.getElem_cons_zero, List.getElem_cons_succ, List.setIfInBounds_toArray, List.set_cons_zero, List.set_cons_succ]
  refine wpAnyH_take (i := 9) (v := undef) rfl (by kernel_rfl) (by kernel_rfl) (by kernel_rfl) (fun _ _ _ h => h) (Or.inr ⟨by rfl, rfl⟩) (by assumption) ?_
  try simp only [Act.put, List.getElem_toArray, List.getElem_cons_zero, List.getElem_cons_succ, List.setIfInBounds_toArray, List.set_cons_zero, List.set_cons_succ]
  refine wpAnyH_take (i := 10) (v := ?_) rfl (by kernel_rfl) (by kernel_rfl) (by kernel_rfl) (fun _ _ _ h => h) (Or.inl ⟨by rfl, ?ya10⟩) (by assumption) ?qa10
  case ya10 => (intro wz hSw; (try dsimp only at hSw); go_simp <;> with_reducible rfl)
  try simp only [Act.put, List.getElem_toArray, List.getElem_cons_zero, List.getElem_cons_succ, List.setIfInBounds_toArray, List.set_cons_zero, List.set_cons_succ]
  refine wpAnyH_take (i := 11) (v := ?_) rfl (by kernel_rfl) (by kernel_rfl) (by kernel_rfl) (fun _ _ _ h => h) (Or.inl ⟨by rfl, ?ya11⟩) (by assumption) ?qa11
  case ya11 => (intro wz hSw; (try dsimp only at hSw); go_simp <;> with_reducible rfl)
  try simp only [Act.put, List.getElem_toArray, List.getElem_cons_zero, List.getElem_cons_succ, List.setIfInBounds_toArray, List.set_cons_zero, List.set_cons_succ]
  refine wpAnyH_done (by kernel_rfl) ?_ _
  go_wp2
  go_ret
  exact ⟨rfl, HB1.out⟩
set_option maxHeartbeats 4000000 in
set_option maxRecDepth 100000 in
theorem drop_bad {w : World} {m n : Nat} {pv : Value} (h : GrV w pv m n) {f t k l : Int} (hr : ¬ rightA n f t k l) : Calls Try.prog 13 #[pv, .agg #[.int .i64 f, .int .i64 t, .int .i64 k, .int .i64 l]] w (HeldP (.int .i64 3) w) := by
  obtain ⟨D, hD⟩ : ∃ D, D = (w.alloc (.cells #[.int .i64 f, .int .i64 t, .int .i64 k, .int .i64 l] 29)).drew := ⟨_, rfl⟩
  have HBD : Hid (Below w.heap.size w D) := Lib.hid (by rw [hD]; exact below_drewN ((Below.refl _ _).alloc (Nat.le_refl _) _) 1)
  have HC : Hid (∀ Z, Below D.heap.size D Z → Z.cell? ⟨w.heap.size, 0, none⟩ = some (.int .i64 f) ∧ Z.cell? ⟨w.heap.size, 1, none⟩ = some (.int .i64 t) ∧ Z.cell? ⟨w.heap.size, 2, none⟩ = some (.int .i64 k) ∧ Z.cell? ⟨w.heap.size, 3, none⟩ = some (.int .i64 l)) := Lib.hid fun Z hZ => by
    have e : D.heap[w.heap.size]? = some (.cells #[.int .i64 f, .int .i64 t, .int .i64 k, .int .i64 l] 29) := by rw [hD]; exact heap_alloc_at _ _ _ rfl
    have k := (hZ.block _ (heap_lt e)).trans e
    simp [World.cell?, k]
  have H1 := Lib.hid (isRight_any (h.below HBD.out) f t k l)
  rw [decide_eq_false hr] at H1
  clear h hr
  go_enter Try.func13, Try.ntmps13
  go_upto_region 1 with fail
  refine wp_region_held_drew (S := fun Z => Z.cell? ⟨w.heap.size, 0, none⟩ = some (.int .i64 f) ∧ Z.cell? ⟨w.heap.size, 1, none⟩ = some (.int .i64 t) ∧ Z.cell? ⟨w.heap.size, 2, none⟩ = some (.int .i64 k) ∧ Z.cell? ⟨w.heap.size, 3, none⟩ = some (.int .i64 l)) (by kernel_rfl) (hD ▸ HC.out _ (Below.refl _ _)) (fun hHeld0 => ?_)
  rw [← hD] at hHeld0 ⊢
  clear hD
  refine wpAnyH_take (i := 0) (v := ?_) rfl (by kernel_rfl) (by kernel_rfl) (by kernel_rfl) (fun _ _ _ h => h) (Or.inl ⟨by rfl, ?ya0⟩) (by assumption) ?qa0
  case ya0 => (intro wz hSw; (try dsimp only at hSw); go_simp <;> with_reducible rfl)
  try simp only [Act.put, List.getElem_toArray, List.getElem_cons_zero, List.setIfInBounds_toArray, List.set_cons_zero, List.set_cons_succ]
  refine wpAnyH_take (i := 1) (v := ?_) rfl (by kernel_rfl) (by kernel_rfl) (by kernel_rfl) (fun _ _ _ h => h) (Or.inl ⟨by rfl, ?ya1⟩) (by assumption) ?qa1
  case ya1 => (intro wz hSw; (try dsimp only at hSw); go_simp <;> with_reducible rfl)
  try simp only [Act.put, List.getElem_toArray, List.getElem_cons_zero, List.getElem_cons_succ, List.setIfInBounds_toArray, List.set_cons_zero, List.set_cons_succ]
  refine wpAnyH_ready (rs := [2]) (by kernel_rfl) (by simp) ?_
  refine AllReadyH.cons rfl (fun K hK => ?_) AllReadyH.nil
  go_simp
  refine H1.out.mono ?_
  rintro e w1 ⟨rfl, hb⟩
  have HB1 := Lib.hid (HBD.out.trans (hb.mono HBD.out.size))
  have HB2 := Lib.hid hb
  clear hb
  refine hK.out _ _ (HC.out _ HB2.out) (fun hHelda2 => ?_)
  clear hK K
  try simp only [Act.put, List.getElem_toArray, List.getElem_cons_zero, List.getElem_cons_succ, List.setIfInBounds_toArray, List.set_cons_zero, List.set_cons_succ]
  refine wpAnyH_take (i := 3) (v := ?_) rfl (by kernel_rfl) (by kernel_rfl) (by kernel_rfl) (fun _ _ _ h => h) (Or.inl ⟨by rfl, ?ya3⟩) (by assumption) ?qa3
  case ya3 => (intro wz hSw; (try dsimp only at hSw); go_simp <;> with_reducible rfl)
  try simp only [Act.put, List.getElem_toArray, List.getElem_cons_zero, List.getElem_cons_succ, List.setIfInBounds_toArray, List.set_cons_zero, List.set_cons_succ]
  refine wpAnyH_take (i := 4) (v := ?_) rfl (by kernel_rfl) (by kernel_rfl) (by kernel_rfl) (fun _ _ _ h => h) (Or.inl ⟨by rfl, ?ya4⟩) (by assumption) ?qa4
  case ya4 => (intro wz hSw; (try dsimp only at hSw); go_simp <;> with_reducible rfl)
  try simp only [Act.put, List.getElem_toArray, List.getElem_cons_zero, List.getElem_cons_succ, List.setIfInBounds_toArray, List.set_cons_zero, List.set_cons_succ]
  refine wpAnyH_take (i := 5) (v := undef) rfl (by kernel_rfl) (by kernel_rfl) (by kernel_rfl) (fun _ _ _ h => h) (Or.inr ⟨by rfl, rfl⟩) (by assumption) ?_
  try simp only [Act.put, List.getElem_toArray, List.getElem_cons_zero, List.getElem_cons_succ, List.setIfInBounds_toArray, List.set_cons_zero, List.set_cons_succ]
  refine wpAnyH_take (i := 6) (v := undef) rfl (by kernel_rfl) (by kernel_rfl) (by kernel_rfl) (fun _ _ _ h => h) (Or.inr ⟨by rfl, rfl⟩) (by assumption) ?_
  try simp only [Act.put, List.getElem_toArray, List.getElem_cons_zero, List.getElem_cons_succ, List.setIfInBounds_toArray, List.set_cons_zero, List.set_cons_succ]
  refine wpAnyH_take (i := 7) (v := undef) rfl (by kernel_rfl) (by kernel_rfl) (by kernel_rfl) (fun _ _ _ h => h) (Or.inr ⟨by rfl, rfl⟩) (by assumption) ?_
  try simp only [Act.put, List.getElem_toArray, List.getElem_cons_zero, List.getElem_cons_succ, List.setIfInBounds_toArray, List.set_cons_zero, List.set_cons_succ]
  refine wpAnyH_take (i := 8) (v := undef) rfl (by kernel_rfl) (by kernel_rfl) (by kernel_rfl) (fun _ _ _ h => h) (Or.inr ⟨by rfl, rfl⟩) (by assumption) ?_
  try simp only [Act.put, List.getElem_toArray, List.getElem_cons_zero, List.getElem_cons_succ, List.setIfInBounds_toArray, List.set_cons_zero, List.set_cons_succ]
  refine wpAnyH_take (i := 9) (v := undef) rfl (by kernel_rfl) (by kernel_rfl) (by kernel_rfl) (fun _ _ _ h => h) (Or.inr ⟨by rfl, rfl⟩) (by assumption) ?_
  try simp only [Act.put, List.getElem_toArray, List.getElem_cons_zero, List.getElem_cons_succ, List.setIfInBounds_toArray, List.set_cons_zero, List.set_cons_succ]
  refine wpAnyH_take (i := 10) (v := undef) rfl (by kernel_rfl) (by kernel_rfl) (by kernel_rfl) (fun _ _ _ h => h) (Or.inr ⟨by rfl, rfl⟩) (by assumption) ?_
  try simp only [Act.put, List.getElem_toArray, List.getElem_cons_zero, List.getElem_cons_succ, List.setIfInBounds_toArray, List.set_cons_zero, List.set_cons_succ]
  refine wpAnyH_take (i := 11) (v := undef) rfl (by kernel_rfl) (by kernel_rfl) (by kernel_rfl) (fun _ _ _ h => h) (Or.inr ⟨by rfl, rfl⟩) (by assumption) ?_
  try simp only [Act.put, List.getElem_toArray, List.getElem_cons_zero, List.getElem_cons_succ, List.setIfInBounds_toArray, List.set_cons_zero, List.set_cons_succ]
  refine wpAnyH_take (i := 12) (v := ?_) rfl (by kernel_rfl) (by kernel_rfl) (by kernel_rfl) (fun _ _ _ h => h) (Or.inl ⟨by rfl, ?ya12⟩) (by assumption) ?qa12
  case ya12 => (intro wz hSw; (try dsimp only at hSw); go_simp <;> with_reducible rfl)
  try simp only [Act.put, List.getElem_toArray, List.getElem_cons_zero, List.getElem_cons_succ, List.setIfInBounds_toArray, List.set_cons_zero, List.set_cons_succ]
  refine wpAnyH_done (by kernel_rfl) ?_ _
  go_wp2
  go_ret
  exact ⟨rfl, HB1.out⟩
set_option maxHeartbeats 4000000 in
set_option maxRecDepth 100000 in
theorem drop_none {w : World} {B b n : Nat} {xs : List Nat} {nbs : Bool → Nat} {Vs : Bool → Nat → Value} {cnt : Bool → Nat → Nat → Nat → Int} (h : GS w B b n xs nbs Vs cnt) (hn : n ≤ 4096) {f t k l : Nat} (hr : rightA n f t k l) (hx : numN f t k l ∉ xs) :
    Calls Try.prog 13 #[.pointer (some ⟨b, 0, none⟩), .agg #[.int .i64 (f : Int), .int .i64 (t : Int), .int .i64 (k : Int), .int .i64 (l : Int)]] w (HeldP (.int .i64 3) w) := by
  have hws : ∀ o, Below w.heap.size w ((w.alloc o).drew) := fun o => below_drewN ((Below.refl _ _).alloc (Nat.le_refl _) o) 1
  have H1 := Lib.hid (isRight_any (h.below (hws (.cells #[.int .i64 (f : Int), .int .i64 (t : Int), .int .i64 (k : Int), .int .i64 (l : Int)] 29))).v (f : Int) (t : Int) (k : Int) (l : Int))
  rw [decide_eq_true hr] at H1
  unfold rightA at hr
  have H2 : Hid (∀ Y, Calls Try.prog 30 #[.agg #[.int .i64 (f : Int), .int .i64 (t : Int), .int .i64 (k : Int), .int .i64 (l : Int)]] Y fun e w' => e = .returned (.int .u64 (numN f t k l : Nat)) ∧ Below Y.heap.size Y w') := Lib.hid fun Y => by
    rw [numN_int]
    exact number_any f t k l (by omega) (by omega) (by omega) (by omega) (by omega) (by omega) (by omega) (by omega) Y
  have H3 : Hid (∀ Y, Below w.heap.size w Y → Calls Try.prog 32 #[.pointer (some ⟨b, 0, none⟩), .int .u64 (numN f t k l : Nat)] Y fun e w' => e = .returned (.bool false) ∧ Below w.heap.size w w') := Lib.hid fun Y hY =>
    (drop_gs_none (h.below hY) hx).mono fun e w' hh => ⟨hh.1, hY.trans (hh.2.mono hY.size)⟩
  have HW := Lib.hid hws
  obtain ⟨g0, g1, g2, g3⟩ := boxes w f t k l
  generalize numN f t k l = x at *
  clear h hr hws hx
  go_enter Try.func13, Try.ntmps13
  go_wp2_with fail
  go_region_with (first
    | (go_at_call 28; ((with_reducible refine (H1.out).mono ?_); rintro e w1 ⟨rfl, hb⟩; have HB := Lib.hid ((HW.out _).trans (hb.mono (HW.out _).size)); have hb' : Below (w.heap.size + 1) ((w.alloc (.cells #[.int .i64 (f : Int), .int .i64 (t : Int), .int .i64 (k : Int), .int .i64 (l : Int)] 29)).drew) w1 := hb.mono (by simp); have j0 := (hb'.cell (p := ⟨w.heap.size, 0, none⟩) (by simp)).trans g0; have j1 := (hb'.cell (p := ⟨w.heap.size, 1, none⟩) (by simp)).trans g1; have j2 := (hb'.cell (p := ⟨w.heap.size, 2, none⟩) (by simp)).trans g2; have j3 := (hb'.cell (p := ⟨w.heap.size, 3, none⟩) (by simp)).trans g3; clear hb hb'))
    | (go_at_call 30; ((with_reducible refine (H2.out _).mono ?_); rintro e w2 ⟨rfl, h2⟩; have HB2 := Lib.hid (HB.out.trans (h2.mono HB.out.size)); clear h2))
    | (go_at_call 32; ((with_reducible refine (H3.out _ HB2.out).mono ?_); rintro e w3 ⟨rfl, h3⟩; have HB3 := Lib.hid h3; clear h3)))
  all_goals go_wp2
  all_goals go_ret
  all_goals exact ⟨rfl, HB3.out⟩
end Go.Proofs.Ytpgfkggfgkafjaa.Gr
