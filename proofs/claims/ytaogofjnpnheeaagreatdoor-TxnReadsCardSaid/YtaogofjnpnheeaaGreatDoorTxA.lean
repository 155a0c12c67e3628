/-
  What the statements on transactions ask first: lives. Not a statement of the seat.
-/
import Derived.Test.YtaogofjnpnheeaaGreatDoorTxW
import Derived.Deep.RegionHeld3
namespace Go.Proofs.YtaogofjnpnheeaaGreatDoor.Tx
open Go.ChangeShapes Go.WideShapes Go.ChangeAt Go.RowKit Base F Lst Nu
def LivesP (w : World) (e : Ending) (w' : World) : Prop := e = .returned (.bool true) ∧ Aft w w'
theorem Oprs_nil (W : World) : Oprs 0 W (.slice none 0 0) [] := OwnOpr.list (OwnOpr.nil 0 W) (by decide)
set_option maxRecDepth 100000 in
set_option maxHeartbeats 16000000 in
theorem lives (w : World) (hp : Pow w) : Calls Tryz.prog 4 #[] w (LivesP w) := by
  have HPW := Lib.hid hp
  obtain ⟨X0, hX0⟩ : ∃ X0, X0 = (((((w.alloc (.cells #[.bool false, .int .i64 5, .int .i64 0, .int .i64 0] 30)).alloc (.cells #[.bool true, .int .i64 5, .int .i64 3, .int .i64 1] 30)).alloc (.cells #[.bool true, .int .i64 1, .int .i64 2, .int .i64 1] 30)).alloc (.cells #[.bool false, .int .i64 5, .int .i64 0, .int .i64 0, .bool true, .int .i64 5, .int .i64 3, .int .i64 1, .bool true, .int .i64 1, .int .i64 2, .int .i64 1, .bool true, .int .i64 1, .int .i64 2, .int .i64 1] 30)).alloc (.cells #[.int .i64 3, .bool true, .slice (some ⟨w.heap.size + 1 + 1 + 1, 0, none⟩) 4 4] 24)) := ⟨_, rfl⟩
  have HA0 : Hid (Aft w X0) := Lib.hid (by rw [hX0]; exact ((((Aft.one _).lay _).lay _).lay _).lay _)
  have HX : Hid (∀ X, Aft X0 X → ((X.cell? ⟨w.heap.size, 0, none⟩ = some (.bool false) ∧ X.cell? ⟨w.heap.size, 1, none⟩ = some (.int .i64 5) ∧ X.cell? ⟨w.heap.size, 2, none⟩ = some (.int .i64 0) ∧ X.cell? ⟨w.heap.size, 3, none⟩ = some (.int .i64 0)) ∧ (X.cell? ⟨w.heap.size + 1, 0, none⟩ = some (.bool true) ∧ X.cell? ⟨w.heap.size + 1, 1, none⟩ = some (.int .i64 5) ∧ X.cell? ⟨w.heap.size + 1, 2, none⟩ = some (.int .i64 3) ∧ X.cell? ⟨w.heap.size + 1, 3, none⟩ = some (.int .i64 1)) ∧ (X.cell? ⟨w.heap.size + 1 + 1 + 1 + 1, 0, none⟩ = some (.int .i64 3) ∧ X.cell? ⟨w.heap.size + 1 + 1 + 1 + 1, 1, none⟩ = some (.bool true) ∧ X.cell? ⟨w.heap.size + 1 + 1 + 1 + 1, 2, none⟩ = some (.slice (some ⟨w.heap.size + 1 + 1 + 1, 0, none⟩) 4 4))) ∧ Oprs 0 X (.slice (some ⟨w.heap.size + 1 + 1 + 1, 0, none⟩) 4 4) L4) := Lib.hid (by
    have e0 : X0.heap[w.heap.size]? = some (.cells #[.bool false, .int .i64 5, .int .i64 0, .int .i64 0] 30) := by rw [hX0]; exact heap_alloc_lt _ _ _ _ (heap_alloc_lt _ _ _ _ (heap_alloc_lt _ _ _ _ (heap_alloc_lt _ _ _ _ (heap_alloc_at _ _ _ rfl))))
    have e1 : X0.heap[w.heap.size + 1]? = some (.cells #[.bool true, .int .i64 5, .int .i64 3, .int .i64 1] 30) := by rw [hX0]; exact heap_alloc_lt _ _ _ _ (heap_alloc_lt _ _ _ _ (heap_alloc_lt _ _ _ _ (heap_alloc_at _ _ _ (by simp))))
    have e3 : X0.heap[w.heap.size + 1 + 1 + 1]? = some (.cells #[.bool false, .int .i64 5, .int .i64 0, .int .i64 0, .bool true, .int .i64 5, .int .i64 3, .int .i64 1, .bool true, .int .i64 1, .int .i64 2, .int .i64 1, .bool true, .int .i64 1, .int .i64 2, .int .i64 1] 30) := by rw [hX0]; exact heap_alloc_lt _ _ _ _ (heap_alloc_at _ _ _ (by simp))
    have e4 : X0.heap[w.heap.size + 1 + 1 + 1 + 1]? = some (.cells #[.int .i64 3, .bool true, .slice (some ⟨w.heap.size + 1 + 1 + 1, 0, none⟩) 4 4] 24) := by rw [hX0]; exact heap_alloc_at _ _ _ (by simp)
    clear hX0
    intro X hX
    have k0 := (hX.block _ (heap_lt e0)).trans e0
    have k1 := (hX.block _ (heap_lt e1)).trans e1
    have k3 := (hX.block _ (heap_lt e3)).trans e3
    have k4 := (hX.block _ (heap_lt e4)).trans e4
    refine ⟨⟨?_, ?_, ?_⟩, own_lit L4 rfl k3 (by decide) 4 rfl⟩
    · simp [World.cell?, k0]
    · simp [World.cell?, k1]
    · simp [World.cell?, k4])
  have HE : Hid (∀ W, Aft X0 W → LivesP w (.returned (.bool true)) W) := Lib.hid fun W hW => ⟨rfl, HA0.out.trans hW⟩
  have B0 : Hid (Aft X0 X0.drew) := Lib.hid (Below.drew (Aft.refl X0))
  clear hp
  generalize LivesP w = Post at HE ⊢
  go_enter Tryz.func4, Tryz.ntmps4
  go_wp2_with fail
  rw [← hX0]
  clear hX0
  simp only [List.append_eq, List.cons_append, List.nil_append]
  refine wp_region_held_drew (S := (fun X => (X.cell? ⟨w.heap.size, 0, none⟩ = some (.bool false) ∧ X.cell? ⟨w.heap.size, 1, none⟩ = some (.int .i64 5) ∧ X.cell? ⟨w.heap.size, 2, none⟩ = some (.int .i64 0) ∧ X.cell? ⟨w.heap.size, 3, none⟩ = some (.int .i64 0)) ∧ (X.cell? ⟨w.heap.size + 1, 0, none⟩ = some (.bool true) ∧ X.cell? ⟨w.heap.size + 1, 1, none⟩ = some (.int .i64 5) ∧ X.cell? ⟨w.heap.size + 1, 2, none⟩ = some (.int .i64 3) ∧ X.cell? ⟨w.heap.size + 1, 3, none⟩ = some (.int .i64 1)) ∧ (X.cell? ⟨w.heap.size + 1 + 1 + 1 + 1, 0, none⟩ = some (.int .i64 3) ∧ X.cell? ⟨w.heap.size + 1 + 1 + 1 + 1, 1, none⟩ = some (.bool true) ∧ X.cell? ⟨w.heap.size + 1 + 1 + 1 + 1, 2, none⟩ = some (.slice (some ⟨w.heap.size + 1 + 1 + 1, 0, none⟩) 4 4)))) (by kernel_rfl) (HX.out _ B0.out).1 (fun hHeld0 => ?_)
  refine wpAnyH_take (i := 0) (v := ?_) rfl (by as_aux_lemma => kernel_rfl) (by as_aux_lemma => kernel_rfl) (by as_aux_lemma => kernel_rfl) (fun _ _ _ h => h) (Or.inl ⟨by as_aux_lemma => rfl, ?yt0⟩) (by assumption) ?qt0
  case yt0 => (intro wz hSw; (try dsimp only at hSw); go_simp <;> with_reducible rfl)
  try simp only [Act.put, List.getElem_toArray, List.getElem_cons_zero, List.setIfInBounds_toArray, List.set_cons_zero, List.set_cons_succ]
  refine wpAnyH_ready (rs := [1]) (by as_aux_lemma => kernel_rfl) (by simp) ?_
  refine AllReadyH.cons rfl (fun K hK => ?_) AllReadyH.nil
  go_simp
  refine (k_right 3 true 0 (HX.out _ B0.out).2 (by decide) f_right).mono ?_
  rintro e u1 ⟨rfl, hb⟩
  have B1 := Lib.hid (Aft.trans B0.out hb)
  clear hb
  refine hK.out _ _ (HX.out _ B1.out).1 (fun hHeld1 => ?_)
  clear hK K
  try simp only [Act.put, List.getElem_toArray, List.getElem_cons_zero, List.getElem_cons_succ, List.setIfInBounds_toArray, List.set_cons_zero, List.set_cons_succ]
  refine wpAnyH_take (i := 2) (v := ?_) rfl (by as_aux_lemma => kernel_rfl) (by as_aux_lemma => kernel_rfl) (by as_aux_lemma => kernel_rfl) (fun _ _ _ h => h) (Or.inl ⟨by as_aux_lemma => rfl, ?yt2⟩) (by assumption) ?qt2
  case yt2 => (intro wz hSw; (try dsimp only at hSw); go_simp <;> with_reducible rfl)
  try simp only [Act.put, List.getElem_toArray, List.getElem_cons_zero, List.getElem_cons_succ, List.setIfInBounds_toArray, List.set_cons_zero, List.set_cons_succ]
  refine wpAnyH_take (i := 3) (v := ?_) rfl (by as_aux_lemma => kernel_rfl) (by as_aux_lemma => kernel_rfl) (by as_aux_lemma => kernel_rfl) (fun _ _ _ h => h) (Or.inl ⟨by as_aux_lemma => rfl, ?yt3⟩) (by assumption) ?qt3
  case yt3 => (intro wz hSw; (try dsimp only at hSw); go_simp <;> with_reducible rfl)
  try simp only [Act.put, List.getElem_toArray, List.getElem_cons_zero, List.getElem_cons_succ, List.setIfInBounds_toArray, List.set_cons_zero, List.set_cons_succ]
  refine wpAnyH_take (i := 4) (v := ?_) rfl (by as_aux_lemma => kernel_rfl) (by as_aux_lemma => kernel_rfl) (by as_aux_lemma => kernel_rfl) (fun _ _ _ h => h) (Or.inl ⟨by as_aux_lemma => rfl, ?yt4⟩) (by assumption) ?qt4
  case yt4 => (intro wz hSw; (try dsimp only at hSw); go_simp <;> with_reducible rfl)
  try simp only [Act.put, List.getElem_toArray, List.getElem_cons_zero, List.getElem_cons_succ, List.setIfInBounds_toArray, List.set_cons_zero, List.set_cons_succ]
  refine wpAnyH_take (i := 5) (v := ?_) rfl (by as_aux_lemma => kernel_rfl) (by as_aux_lemma => kernel_rfl) (by as_aux_lemma => kernel_rfl) (fun _ _ _ h => h) (Or.inl ⟨by as_aux_lemma => rfl, ?yt5⟩) (by assumption) ?qt5
  case yt5 => (intro wz hSw; (try dsimp only at hSw); go_simp <;> with_reducible rfl)
  try simp only [Act.put, List.getElem_toArray, List.getElem_cons_zero, List.getElem_cons_succ, List.setIfInBounds_toArray, List.set_cons_zero, List.set_cons_succ]
  refine wpAnyH_ready (rs := [6]) (by as_aux_lemma => kernel_rfl) (by simp) ?_
  refine AllReadyH.cons rfl (fun K hK => ?_) AllReadyH.nil
  go_simp
  obtain ⟨p2, hp2⟩ : ∃ p : Option Addr, p = some ⟨u1.heap.size, 0, none⟩ := ⟨_, rfl⟩
  obtain ⟨u2, hu2⟩ : ∃ U, U = u1.alloc (.cells #[.bool true, .int .i64 5, .int .i64 3, .int .i64 1, .bool false, .int .i64 5, .int .i64 0, .int .i64 0] 30) := ⟨_, rfl⟩
  have F6 : Hid (Oprs 0 u2 (.slice p2 2 2) L2) := Lib.hid (by rw [hp2, hu2]; exact own_lit L2 rfl (heap_alloc_at _ _ _ rfl) (by decide) 2 rfl)
  have A2 : Hid (Aft u1 u2) := Lib.hid (by rw [hu2]; exact Aft.one _)
  rw [← hp2, ← hu2]
  clear hp2 hu2
  have B2 := Lib.hid (Aft.trans B1.out A2.out)
  refine hK.out _ _ (HX.out _ B2.out).1 (fun hHeld2 => ?_)
  clear hK K
  try simp only [Act.put, List.getElem_toArray, List.getElem_cons_zero, List.getElem_cons_succ, List.setIfInBounds_toArray, List.set_cons_zero, List.set_cons_succ]
  refine wpAnyH_take (i := 7) (v := ?_) rfl (by as_aux_lemma => kernel_rfl) (by as_aux_lemma => kernel_rfl) (by as_aux_lemma => kernel_rfl) (fun _ _ _ h => h) (Or.inl ⟨by as_aux_lemma => rfl, ?yt7⟩) (by assumption) ?qt7
  case yt7 => (intro wz hSw; (try dsimp only at hSw); go_simp <;> with_reducible rfl)
  try simp only [Act.put, List.getElem_toArray, List.getElem_cons_zero, List.getElem_cons_succ, List.setIfInBounds_toArray, List.set_cons_zero, List.set_cons_succ]
  refine wpAnyH_ready (rs := [8]) (by as_aux_lemma => kernel_rfl) (by simp) ?_
  refine AllReadyH.cons rfl (fun K hK => ?_) AllReadyH.nil
  go_simp
  refine (k_right 3 false 6 F6.out (by decide) f_right2).mono ?_
  rintro e u3 ⟨rfl, hb⟩
  have B3 := Lib.hid (Aft.trans B2.out hb)
  clear hb
  refine hK.out _ _ (HX.out _ B3.out).1 (fun hHeld3 => ?_)
  clear hK K
  try simp only [Act.put, List.getElem_toArray, List.getElem_cons_zero, List.getElem_cons_succ, List.setIfInBounds_toArray, List.set_cons_zero, List.set_cons_succ]
  refine wpAnyH_take (i := 9) (v := ?_) rfl (by as_aux_lemma => kernel_rfl) (by as_aux_lemma => kernel_rfl) (by as_aux_lemma => kernel_rfl) (fun _ _ _ h => h) (Or.inl ⟨by as_aux_lemma => rfl, ?yt9⟩) (by assumption) ?qt9
  case yt9 => (intro wz hSw; (try dsimp only at hSw); go_simp <;> with_reducible rfl)
  try simp only [Act.put, List.getElem_toArray, List.getElem_cons_zero, List.getElem_cons_succ, List.setIfInBounds_toArray, List.set_cons_zero, List.set_cons_succ]
  refine wpAnyH_take (i := 10) (v := ?_) rfl (by as_aux_lemma => kernel_rfl) (by as_aux_lemma => kernel_rfl) (by as_aux_lemma => kernel_rfl) (fun _ _ _ h => h) (Or.inl ⟨by as_aux_lemma => rfl, ?yt10⟩) (by assumption) ?qt10
  case yt10 => (intro wz hSw; (try dsimp only at hSw); go_simp <;> with_reducible rfl)
  try simp only [Act.put, List.getElem_toArray, List.getElem_cons_zero, List.getElem_cons_succ, List.setIfInBounds_toArray, List.set_cons_zero, List.set_cons_succ]
  refine wpAnyH_take (i := 11) (v := ?_) rfl (by as_aux_lemma => kernel_rfl) (by as_aux_lemma => kernel_rfl) (by as_aux_lemma => kernel_rfl) (fun _ _ _ h => h) (Or.inl ⟨by as_aux_lemma => rfl, ?yt11⟩) (by assumption) ?qt11
  case yt11 => (intro wz hSw; (try dsimp only at hSw); go_simp <;> with_reducible rfl)
  try simp only [Act.put, List.getElem_toArray, List.getElem_cons_zero, List.getElem_cons_succ, List.setIfInBounds_toArray, List.set_cons_zero, List.set_cons_succ]
  refine wpAnyH_take (i := 12) (v := ?_) rfl (by as_aux_lemma => kernel_rfl) (by as_aux_lemma => kernel_rfl) (by as_aux_lemma => kernel_rfl) (fun _ _ _ h => h) (Or.inl ⟨by as_aux_lemma => rfl, ?yt12⟩) (by assumption) ?qt12
  case yt12 => (intro wz hSw; (try dsimp only at hSw); go_simp <;> with_reducible rfl)
  try simp only [Act.put, List.getElem_toArray, List.getElem_cons_zero, List.getElem_cons_succ, List.setIfInBounds_toArray, List.set_cons_zero, List.set_cons_succ]
  refine wpAnyH_ready (rs := [13]) (by as_aux_lemma => kernel_rfl) (by simp) ?_
  refine AllReadyH.cons rfl (fun K hK => ?_) AllReadyH.nil
  go_simp
  refine (k_right 0 false 1 (Oprs_nil _) (by decide) f_right0).mono ?_
  rintro e u4 ⟨rfl, hb⟩
  have B4 := Lib.hid (Aft.trans B3.out hb)
  clear hb
  refine hK.out _ _ (HX.out _ B4.out).1 (fun hHeld4 => ?_)
  clear hK K
  try simp only [Act.put, List.getElem_toArray, List.getElem_cons_zero, List.getElem_cons_succ, List.setIfInBounds_toArray, List.set_cons_zero, List.set_cons_succ]
  refine wpAnyH_take (i := 14) (v := ?_) rfl (by as_aux_lemma => kernel_rfl) (by as_aux_lemma => kernel_rfl) (by as_aux_lemma => kernel_rfl) (fun _ _ _ h => h) (Or.inl ⟨by as_aux_lemma => rfl, ?yt14⟩) (by assumption) ?qt14
  case yt14 => (intro wz hSw; (try dsimp only at hSw); go_simp <;> with_reducible rfl)
  try simp only [Act.put, List.getElem_toArray, List.getElem_cons_zero, List.getElem_cons_succ, List.setIfInBounds_toArray, List.set_cons_zero, List.set_cons_succ]
  refine wpAnyH_take (i := 15) (v := ?_) rfl (by as_aux_lemma => kernel_rfl) (by as_aux_lemma => kernel_rfl) (by as_aux_lemma => kernel_rfl) (fun _ _ _ h => h) (Or.inl ⟨by as_aux_lemma => rfl, ?yt15⟩) (by assumption) ?qt15
  case yt15 => (intro wz hSw; (try dsimp only at hSw); go_simp <;> with_reducible rfl)
  try simp only [Act.put, List.getElem_toArray, List.getElem_cons_zero, List.getElem_cons_succ, List.setIfInBounds_toArray, List.set_cons_zero, List.set_cons_succ]
  refine wpAnyH_take (i := 16) (v := ?_) rfl (by as_aux_lemma => kernel_rfl) (by as_aux_lemma => kernel_rfl) (by as_aux_lemma => kernel_rfl) (fun _ _ _ h => h) (Or.inl ⟨by as_aux_lemma => rfl, ?yt16⟩) (by assumption) ?qt16
  case yt16 => (intro wz hSw; (try dsimp only at hSw); go_simp <;> with_reducible rfl)
  try simp only [Act.put, List.getElem_toArray, List.getElem_cons_zero, List.getElem_cons_succ, List.setIfInBounds_toArray, List.set_cons_zero, List.set_cons_succ]
  refine wpAnyH_take (i := 17) (v := ?_) rfl (by as_aux_lemma => kernel_rfl) (by as_aux_lemma => kernel_rfl) (by as_aux_lemma => kernel_rfl) (fun _ _ _ h => h) (Or.inl ⟨by as_aux_lemma => rfl, ?yt17⟩) (by assumption) ?qt17
  case yt17 => (intro wz hSw; (try dsimp only at hSw); go_simp <;> with_reducible rfl)
  try simp only [Act.put, List.getElem_toArray, List.getElem_cons_zero, List.getElem_cons_succ, List.setIfInBounds_toArray, List.set_cons_zero, List.set_cons_succ]
  refine wpAnyH_ready (rs := [18]) (by as_aux_lemma => kernel_rfl) (by simp) ?_
  refine AllReadyH.cons rfl (fun K hK => ?_) AllReadyH.nil
  go_simp
  obtain ⟨p5, hp5⟩ : ∃ p : Option Addr, p = some ⟨u4.heap.size, 0, none⟩ := ⟨_, rfl⟩
  obtain ⟨u5, hu5⟩ : ∃ U, U = u4.alloc (.cells #[.bool false, .int .i64 0, .int .i64 0, .int .i64 0] 30) := ⟨_, rfl⟩
  have F18 : Hid (Oprs 0 u5 (.slice p5 1 1) [Opr.zero]) := Lib.hid (by rw [hp5, hu5]; exact own_lit [Opr.zero] rfl (heap_alloc_at _ _ _ rfl) (by decide) 1 rfl)
  have A5 : Hid (Aft u4 u5) := Lib.hid (by rw [hu5]; exact Aft.one _)
  rw [← hp5, ← hu5]
  clear hp5 hu5
  have B5 := Lib.hid (Aft.trans B4.out A5.out)
  refine hK.out _ _ (HX.out _ B5.out).1 (fun hHeld5 => ?_)
  clear hK K
  try simp only [Act.put, List.getElem_toArray, List.getElem_cons_zero, List.getElem_cons_succ, List.setIfInBounds_toArray, List.set_cons_zero, List.set_cons_succ]
  refine wpAnyH_take (i := 19) (v := ?_) rfl (by as_aux_lemma => kernel_rfl) (by as_aux_lemma => kernel_rfl) (by as_aux_lemma => kernel_rfl) (fun _ _ _ h => h) (Or.inl ⟨by as_aux_lemma => rfl, ?yt19⟩) (by assumption) ?qt19
  case yt19 => (intro wz hSw; (try dsimp only at hSw); go_simp <;> with_reducible rfl)
  try simp only [Act.put, List.getElem_toArray, List.getElem_cons_zero, List.getElem_cons_succ, List.setIfInBounds_toArray, List.set_cons_zero, List.set_cons_succ]
  refine wpAnyH_ready (rs := [20]) (by as_aux_lemma => kernel_rfl) (by simp) ?_
  refine AllReadyH.cons rfl (fun K hK => ?_) AllReadyH.nil
  go_simp
  refine (k_right 1 false 1 F18.out (by decide) f_right1).mono ?_
  rintro e u6 ⟨rfl, hb⟩
  have B6 := Lib.hid (Aft.trans B5.out hb)
  clear hb
  refine hK.out _ _ (HX.out _ B6.out).1 (fun hHeld6 => ?_)
  clear hK K
  try simp only [Act.put, List.getElem_toArray, List.getElem_cons_zero, List.getElem_cons_succ, List.setIfInBounds_toArray, List.set_cons_zero, List.set_cons_succ]
  refine wpAnyH_take (i := 21) (v := ?_) rfl (by as_aux_lemma => kernel_rfl) (by as_aux_lemma => kernel_rfl) (by as_aux_lemma => kernel_rfl) (fun _ _ _ h => h) (Or.inl ⟨by as_aux_lemma => rfl, ?yt21⟩) (by assumption) ?qt21
  case yt21 => (intro wz hSw; (try dsimp only at hSw); go_simp <;> with_reducible rfl)
  try simp only [Act.put, List.getElem_toArray, List.getElem_cons_zero, List.getElem_cons_succ, List.setIfInBounds_toArray, List.set_cons_zero, List.set_cons_succ]
  refine wpAnyH_take (i := 22) (v := ?_) rfl (by as_aux_lemma => kernel_rfl) (by as_aux_lemma => kernel_rfl) (by as_aux_lemma => kernel_rfl) (fun _ _ _ h => h) (Or.inl ⟨by as_aux_lemma => rfl, ?yt22⟩) (by assumption) ?qt22
  case yt22 => (intro wz hSw; (try dsimp only at hSw); go_simp <;> with_reducible rfl)
  try simp only [Act.put, List.getElem_toArray, List.getElem_cons_zero, List.getElem_cons_succ, List.setIfInBounds_toArray, List.set_cons_zero, List.set_cons_succ]
  refine wpAnyH_take (i := 23) (v := ?_) rfl (by as_aux_lemma => kernel_rfl) (by as_aux_lemma => kernel_rfl) (by as_aux_lemma => kernel_rfl) (fun _ _ _ h => h) (Or.inl ⟨by as_aux_lemma => rfl, ?yt23⟩) (by assumption) ?qt23
  case yt23 => (intro wz hSw; (try dsimp only at hSw); go_simp <;> with_reducible rfl)
  try simp only [Act.put, List.getElem_toArray, List.getElem_cons_zero, List.getElem_cons_succ, List.setIfInBounds_toArray, List.set_cons_zero, List.set_cons_succ]
  refine wpAnyH_ready (rs := [24]) (by as_aux_lemma => kernel_rfl) (by simp) ?_
  refine AllReadyH.cons rfl (fun K hK => ?_) AllReadyH.nil
  rw [if_pos (by rfl)]
  refine wp_makeO (.const (.int .i64 4096)) (.const (.int .i64 4096)) rfl rfl rfl ?_
  intro p7 u7 hb
  have B7 := Lib.hid (Aft.trans B6.out hb)
  clear hb
  refine hK.out _ _ (HX.out _ B7.out).1 (fun hHeld7 => ?_)
  clear hK K
  try simp only [Act.put, List.getElem_toArray, List.getElem_cons_zero, List.getElem_cons_succ, List.setIfInBounds_toArray, List.set_cons_zero, List.set_cons_succ]
  refine wpAnyH_take (i := 25) (v := ?_) rfl (by as_aux_lemma => kernel_rfl) (by as_aux_lemma => kernel_rfl) (by as_aux_lemma => kernel_rfl) (fun _ _ _ h => h) (Or.inl ⟨by as_aux_lemma => rfl, ?yt25⟩) (by assumption) ?qt25
  case yt25 => (intro wz hSw; (try dsimp only at hSw); go_simp <;> with_reducible rfl)
  try simp only [Act.put, List.getElem_toArray, List.getElem_cons_zero, List.getElem_cons_succ, List.setIfInBounds_toArray, List.set_cons_zero, List.set_cons_succ]
  refine wpAnyH_ready (rs := [26]) (by as_aux_lemma => kernel_rfl) (by simp) ?_
  refine AllReadyH.cons rfl (fun K hK => ?_) AllReadyH.nil
  go_simp
  refine (k_long _ _).mono ?_
  rintro e u8 ⟨rfl, hb⟩
  have B8 := Lib.hid (Aft.trans B7.out hb)
  clear hb
  refine hK.out _ _ (HX.out _ B8.out).1 (fun hHeld8 => ?_)
  clear hK K
  try simp only [Act.put, List.getElem_toArray, List.getElem_cons_zero, List.getElem_cons_succ, List.setIfInBounds_toArray, List.set_cons_zero, List.set_cons_succ]
  refine wpAnyH_take (i := 27) (v := ?_) rfl (by as_aux_lemma => kernel_rfl) (by as_aux_lemma => kernel_rfl) (by as_aux_lemma => kernel_rfl) (fun _ _ _ h => h) (Or.inl ⟨by as_aux_lemma => rfl, ?yt27⟩) (by assumption) ?qt27
  case yt27 => (intro wz hSw; (try dsimp only at hSw); go_simp <;> with_reducible rfl)
  try simp only [Act.put, List.getElem_toArray, List.getElem_cons_zero, List.getElem_cons_succ, List.setIfInBounds_toArray, List.set_cons_zero, List.set_cons_succ]
  refine wpAnyH_take (i := 28) (v := ?_) rfl (by as_aux_lemma => kernel_rfl) (by as_aux_lemma => kernel_rfl) (by as_aux_lemma => kernel_rfl) (fun _ _ _ h => h) (Or.inl ⟨by as_aux_lemma => rfl, ?yt28⟩) (by assumption) ?qt28
  case yt28 => (intro wz hSw; (try dsimp only at hSw); go_simp <;> with_reducible rfl)
  try simp only [Act.put, List.getElem_toArray, List.getElem_cons_zero, List.getElem_cons_succ, List.setIfInBounds_toArray, List.set_cons_zero, List.set_cons_succ]
  refine wpAnyH_take (i := 29) (v := ?_) rfl (by as_aux_lemma => kernel_rfl) (by as_aux_lemma => kernel_rfl) (by as_aux_lemma => kernel_rfl) (fun _ _ _ h => h) (Or.inl ⟨by as_aux_lemma => rfl, ?yt29⟩) (by assumption) ?qt29
  case yt29 => (intro wz hSw; (try dsimp only at hSw); go_simp <;> with_reducible rfl)
  try simp only [Act.put, List.getElem_toArray, List.getElem_cons_zero, List.getElem_cons_succ, List.setIfInBounds_toArray, List.set_cons_zero, List.set_cons_succ]
  refine wpAnyH_take (i := 30) (v := ?_) rfl (by as_aux_lemma => kernel_rfl) (by as_aux_lemma => kernel_rfl) (by as_aux_lemma => kernel_rfl) (fun _ _ _ h => h) (Or.inl ⟨by as_aux_lemma => rfl, ?yt30⟩) (by assumption) ?qt30
  case yt30 => (intro wz hSw; (try dsimp only at hSw); go_simp <;> with_reducible rfl)
  try simp only [Act.put, List.getElem_toArray, List.getElem_cons_zero, List.getElem_cons_succ, List.setIfInBounds_toArray, List.set_cons_zero, List.set_cons_succ]
  refine wpAnyH_ready (rs := [31]) (by as_aux_lemma => kernel_rfl) (by simp) ?_
  refine AllReadyH.cons rfl (fun K hK => ?_) AllReadyH.nil
  go_simp
  refine (k_writes 3 5 true 1 (HX.out _ B8.out).2 (by decide) (by rw [f_wr5]; rfl)).mono ?_
  rintro e u9 ⟨rfl, hb⟩
  have B9 := Lib.hid (Aft.trans B8.out hb)
  clear hb
  refine hK.out _ _ (HX.out _ B9.out).1 (fun hHeld9 => ?_)
  clear hK K
  try simp only [Act.put, List.getElem_toArray, List.getElem_cons_zero, List.getElem_cons_succ, List.setIfInBounds_toArray, List.set_cons_zero, List.set_cons_succ]
  refine wpAnyH_take (i := 32) (v := ?_) rfl (by as_aux_lemma => kernel_rfl) (by as_aux_lemma => kernel_rfl) (by as_aux_lemma => kernel_rfl) (fun _ _ _ h => h) (Or.inl ⟨by as_aux_lemma => rfl, ?yt32⟩) (by assumption) ?qt32
  case yt32 => (intro wz hSw; (try dsimp only at hSw); go_simp <;> with_reducible rfl)
  try simp only [Act.put, List.getElem_toArray, List.getElem_cons_zero, List.getElem_cons_succ, List.setIfInBounds_toArray, List.set_cons_zero, List.set_cons_succ]
  refine wpAnyH_take (i := 33) (v := ?_) rfl (by as_aux_lemma => kernel_rfl) (by as_aux_lemma => kernel_rfl) (by as_aux_lemma => kernel_rfl) (fun _ _ _ h => h) (Or.inl ⟨by as_aux_lemma => rfl, ?yt33⟩) (by assumption) ?qt33
  case yt33 => (intro wz hSw; (try dsimp only at hSw); go_simp <;> with_reducible rfl)
  try simp only [Act.put, List.getElem_toArray, List.getElem_cons_zero, List.getElem_cons_succ, List.setIfInBounds_toArray, List.set_cons_zero, List.set_cons_succ]
  refine wpAnyH_take (i := 34) (v := ?_) rfl (by as_aux_lemma => kernel_rfl) (by as_aux_lemma => kernel_rfl) (by as_aux_lemma => kernel_rfl) (fun _ _ _ h => h) (Or.inl ⟨by as_aux_lemma => rfl, ?yt34⟩) (by assumption) ?qt34
  case yt34 => (intro wz hSw; (try dsimp only at hSw); go_simp <;> with_reducible rfl)
  try simp only [Act.put, List.getElem_toArray, List.getElem_cons_zero, List.getElem_cons_succ, List.setIfInBounds_toArray, List.set_cons_zero, List.set_cons_succ]
  refine wpAnyH_take (i := 35) (v := ?_) rfl (by as_aux_lemma => kernel_rfl) (by as_aux_lemma => kernel_rfl) (by as_aux_lemma => kernel_rfl) (fun _ _ _ h => h) (Or.inl ⟨by as_aux_lemma => rfl, ?yt35⟩) (by assumption) ?qt35
  case yt35 => (intro wz hSw; (try dsimp only at hSw); go_simp <;> with_reducible rfl)
  try simp only [Act.put, List.getElem_toArray, List.getElem_cons_zero, List.getElem_cons_succ, List.setIfInBounds_toArray, List.set_cons_zero, List.set_cons_succ]
  refine wpAnyH_ready (rs := [36]) (by as_aux_lemma => kernel_rfl) (by simp) ?_
  refine AllReadyH.cons rfl (fun K hK => ?_) AllReadyH.nil
  go_simp
  refine (k_writes 3 1 true 0 (HX.out _ B9.out).2 (by decide) (by rw [f_wr1]; rfl)).mono ?_
  rintro e u10 ⟨rfl, hb⟩
  have B10 := Lib.hid (Aft.trans B9.out hb)
  clear hb
  refine hK.out _ _ (HX.out _ B10.out).1 (fun hHeld10 => ?_)
  clear hK K
  try simp only [Act.put, List.getElem_toArray, List.getElem_cons_zero, List.getElem_cons_succ, List.setIfInBounds_toArray, List.set_cons_zero, List.set_cons_succ]
  refine wpAnyH_take (i := 37) (v := ?_) rfl (by as_aux_lemma => kernel_rfl) (by as_aux_lemma => kernel_rfl) (by as_aux_lemma => kernel_rfl) (fun _ _ _ h => h) (Or.inl ⟨by as_aux_lemma => rfl, ?yt37⟩) (by assumption) ?qt37
  case yt37 => (intro wz hSw; (try dsimp only at hSw); go_simp <;> with_reducible rfl)
  try simp only [Act.put, List.getElem_toArray, List.getElem_cons_zero, List.getElem_cons_succ, List.setIfInBounds_toArray, List.set_cons_zero, List.set_cons_succ]
  refine wpAnyH_take (i := 38) (v := ?_) rfl (by as_aux_lemma => kernel_rfl) (by as_aux_lemma => kernel_rfl) (by as_aux_lemma => kernel_rfl) (fun _ _ _ h => h) (Or.inl ⟨by as_aux_lemma => rfl, ?yt38⟩) (by assumption) ?qt38
  case yt38 => (intro wz hSw; (try dsimp only at hSw); go_simp <;> with_reducible rfl)
  try simp only [Act.put, List.getElem_toArray, List.getElem_cons_zero, List.getElem_cons_succ, List.setIfInBounds_toArray, List.set_cons_zero, List.set_cons_succ]
  refine wpAnyH_take (i := 39) (v := ?_) rfl (by as_aux_lemma => kernel_rfl) (by as_aux_lemma => kernel_rfl) (by as_aux_lemma => kernel_rfl) (fun _ _ _ h => h) (Or.inl ⟨by as_aux_lemma => rfl, ?yt39⟩) (by assumption) ?qt39
  case yt39 => (intro wz hSw; (try dsimp only at hSw); go_simp <;> with_reducible rfl)
  try simp only [Act.put, List.getElem_toArray, List.getElem_cons_zero, List.getElem_cons_succ, List.setIfInBounds_toArray, List.set_cons_zero, List.set_cons_succ]
  refine wpAnyH_take (i := 40) (v := ?_) rfl (by as_aux_lemma => kernel_rfl) (by as_aux_lemma => kernel_rfl) (by as_aux_lemma => kernel_rfl) (fun _ _ _ h => h) (Or.inl ⟨by as_aux_lemma => rfl, ?yt40⟩) (by assumption) ?qt40
  case yt40 => (intro wz hSw; (try dsimp only at hSw); go_simp <;> with_reducible rfl)
  try simp only [Act.put, List.getElem_toArray, List.getElem_cons_zero, List.getElem_cons_succ, List.setIfInBounds_toArray, List.set_cons_zero, List.set_cons_succ]
  refine joinG (fun (x : Value) (p : Option Addr) (u : World) => Ints 0 u x [5] ∧ Ints 0 u (.slice p 1 1) [5] ∧ Aft X0 u) ?G41 (fun HJ => ?f41) ?r41
  case f41 =>
    refine wpAnyH_ready (rs := [41, 42]) (by as_aux_lemma => kernel_rfl) (by simp) ?_
    refine AllReadyH.cons rfl (fun K hK => ?b41) ?c41
    case b41 =>
      go_simp
      refine (k_keys 3 true [5] (HX.out _ B10.out).2 (by decide) f_keys).mono ?_
      rintro e u11 ⟨x11, rfl, hx, hb⟩
      have F41 : Hid (Ints 0 u11 x11 [5]) := Lib.hid hx
      have hb41 := hb
      have B11 := Lib.hid (Aft.trans B10.out hb)
      clear hb hx
      refine hK.out _ _ (HX.out _ B11.out).1 (fun hHeld11 => ?_)
      clear hK K
      try simp only [Act.put, List.getElem_toArray, List.getElem_cons_zero, List.getElem_cons_succ, List.setIfInBounds_toArray, List.set_cons_zero, List.set_cons_succ]
      refine wpAnyH_ready (rs := [42]) (by as_aux_lemma => kernel_rfl) (by simp) ?_
      refine AllReadyH.cons rfl (fun K hK => ?_) AllReadyH.nil
      go_simp
      obtain ⟨p12, hp12⟩ : ∃ p : Option Addr, p = some ⟨u11.heap.size, 0, none⟩ := ⟨_, rfl⟩
      obtain ⟨u12, hu12⟩ : ∃ U, U = u11.alloc (.cells #[.int .i64 5] 3) := ⟨_, rfl⟩
      have F42 : Hid (Ints 0 u12 (.slice p12 1 1) [5]) := Lib.hid (by rw [hp12, hu12]; exact (lit_ints [5] _ 3 _ rfl (by decide) _ rfl).mono (Nat.zero_le _))
      have A12 : Hid (Aft u11 u12) := Lib.hid (by rw [hu12]; exact Aft.one _)
      rw [← hp12, ← hu12]
      clear hp12 hu12
      have B12 := Lib.hid (Aft.trans B11.out A12.out)
      refine hK.out _ _ (HX.out _ B12.out).1 (fun hHeld12 => ?_)
      clear hK K
      try simp only [Act.put, List.getElem_toArray, List.getElem_cons_zero, List.getElem_cons_succ, List.setIfInBounds_toArray, List.set_cons_zero, List.set_cons_succ]
      exact HJ _ _ _ ⟨F41.out.below A12.out, F42.out, B12.out⟩
    refine AllReadyH.cons rfl (fun K hK => ?b42) ?c42
    case b42 =>
      go_simp
      obtain ⟨p13, hp13⟩ : ∃ p : Option Addr, p = some ⟨u10.heap.size, 0, none⟩ := ⟨_, rfl⟩
      obtain ⟨u13, hu13⟩ : ∃ U, U = u10.alloc (.cells #[.int .i64 5] 3) := ⟨_, rfl⟩
      have F42 : Hid (Ints 0 u13 (.slice p13 1 1) [5]) := Lib.hid (by rw [hp13, hu13]; exact (lit_ints [5] _ 3 _ rfl (by decide) _ rfl).mono (Nat.zero_le _))
      have A13 : Hid (Aft u10 u13) := Lib.hid (by rw [hu13]; exact Aft.one _)
      rw [← hp13, ← hu13]
      clear hp13 hu13
      have B13 := Lib.hid (Aft.trans B10.out A13.out)
      refine hK.out _ _ (HX.out _ B13.out).1 (fun hHeld13 => ?_)
      clear hK K
      try simp only [Act.put, List.getElem_toArray, List.getElem_cons_zero, List.getElem_cons_succ, List.setIfInBounds_toArray, List.set_cons_zero, List.set_cons_succ]
      refine wpAnyH_ready (rs := [41]) (by as_aux_lemma => kernel_rfl) (by simp) ?_
      refine AllReadyH.cons rfl (fun K hK => ?_) AllReadyH.nil
      go_simp
      refine (k_keys 3 true [5] (HX.out _ B13.out).2 (by decide) f_keys).mono ?_
      rintro e u14 ⟨x14, rfl, hx, hb⟩
      have F41 : Hid (Ints 0 u14 x14 [5]) := Lib.hid hx
      have hb41 := hb
      have B14 := Lib.hid (Aft.trans B13.out hb)
      clear hb hx
      refine hK.out _ _ (HX.out _ B14.out).1 (fun hHeld14 => ?_)
      clear hK K
      try simp only [Act.put, List.getElem_toArray, List.getElem_cons_zero, List.getElem_cons_succ, List.setIfInBounds_toArray, List.set_cons_zero, List.set_cons_succ]
      rw [Array.setIfInBounds_comm _ _ (show 42 ≠ 41 by decide)]
      exact HJ _ _ _ ⟨F41.out, F42.out.below hb41, B14.out⟩
    exact AllReadyH.nil
  rintro x15 p15 u15 ⟨h1, h2, h3⟩
  have FJ := Lib.hid (And.intro h1 h2)
  have B15 := Lib.hid h3
  have hHeld15 := (HX.out _ h3).1
  clear h1 h2 h3
  refine wpAnyH_ready (rs := [43]) (by as_aux_lemma => kernel_rfl) (by simp) ?_
  refine AllReadyH.cons rfl (fun K hK => ?_) AllReadyH.nil
  go_simp
  refine (k_sameI FJ.out.1 FJ.out.2).mono ?_
  rintro e u16 ⟨rfl, hb⟩
  have B16 := Lib.hid (Aft.trans B15.out hb)
  clear hb
  refine hK.out _ _ (HX.out _ B16.out).1 (fun hHeld16 => ?_)
  clear hK K
  try simp only [Act.put, List.getElem_toArray, List.getElem_cons_zero, List.getElem_cons_succ, List.setIfInBounds_toArray, List.set_cons_zero, List.set_cons_succ]
  refine wpAnyH_take (i := 44) (v := ?_) rfl (by as_aux_lemma => kernel_rfl) (by as_aux_lemma => kernel_rfl) (by as_aux_lemma => kernel_rfl) (fun _ _ _ h => h) (Or.inl ⟨by as_aux_lemma => rfl, ?yt44⟩) (by assumption) ?qt44
  case yt44 => (intro wz hSw; (try dsimp only at hSw); go_simp <;> with_reducible rfl)
  try simp only [Act.put, List.getElem_toArray, List.getElem_cons_zero, List.getElem_cons_succ, List.setIfInBounds_toArray, List.set_cons_zero, List.set_cons_succ]
  refine wpAnyH_take (i := 45) (v := ?_) rfl (by as_aux_lemma => kernel_rfl) (by as_aux_lemma => kernel_rfl) (by as_aux_lemma => kernel_rfl) (fun _ _ _ h => h) (Or.inl ⟨by as_aux_lemma => rfl, ?yt45⟩) (by assumption) ?qt45
  case yt45 => (intro wz hSw; (try dsimp only at hSw); go_simp <;> with_reducible rfl)
  try simp only [Act.put, List.getElem_toArray, List.getElem_cons_zero, List.getElem_cons_succ, List.setIfInBounds_toArray, List.set_cons_zero, List.set_cons_succ]
  refine wpAnyH_take (i := 46) (v := ?_) rfl (by as_aux_lemma => kernel_rfl) (by as_aux_lemma => kernel_rfl) (by as_aux_lemma => kernel_rfl) (fun _ _ _ h => h) (Or.inl ⟨by as_aux_lemma => rfl, ?yt46⟩) (by assumption) ?qt46
  case yt46 => (intro wz hSw; (try dsimp only at hSw); go_simp <;> with_reducible rfl)
  try simp only [Act.put, List.getElem_toArray, List.getElem_cons_zero, List.getElem_cons_succ, List.setIfInBounds_toArray, List.set_cons_zero, List.set_cons_succ]
  refine joinG (fun (x : Value) (p : Option Addr) (u : World) => Ints 0 u x [1, 5] ∧ Ints 0 u (.slice p 2 2) [1, 5] ∧ Aft X0 u) ?G47 (fun HJ => ?f47) ?r47
  case f47 =>
    refine wpAnyH_ready (rs := [47, 48]) (by as_aux_lemma => kernel_rfl) (by simp) ?_
    refine AllReadyH.cons rfl (fun K hK => ?b47) ?c47
    case b47 =>
      go_simp
      refine (k_touched 3 true [1, 5] (HX.out _ B16.out).2 (by decide) f_tch).mono ?_
      rintro e u17 ⟨x17, rfl, hx, hb⟩
      have F47 : Hid (Ints 0 u17 x17 [1, 5]) := Lib.hid hx
      have hb47 := hb
      have B17 := Lib.hid (Aft.trans B16.out hb)
      clear hb hx
      refine hK.out _ _ (HX.out _ B17.out).1 (fun hHeld17 => ?_)
      clear hK K
      try simp only [Act.put, List.getElem_toArray, List.getElem_cons_zero, List.getElem_cons_succ, List.setIfInBounds_toArray, List.set_cons_zero, List.set_cons_succ]
      refine wpAnyH_ready (rs := [48]) (by as_aux_lemma => kernel_rfl) (by simp) ?_
      refine AllReadyH.cons rfl (fun K hK => ?_) AllReadyH.nil
      go_simp
      obtain ⟨p18, hp18⟩ : ∃ p : Option Addr, p = some ⟨u17.heap.size, 0, none⟩ := ⟨_, rfl⟩
      obtain ⟨u18, hu18⟩ : ∃ U, U = u17.alloc (.cells #[.int .i64 1, .int .i64 5] 3) := ⟨_, rfl⟩
      have F48 : Hid (Ints 0 u18 (.slice p18 2 2) [1, 5]) := Lib.hid (by rw [hp18, hu18]; exact (lit_ints [1, 5] _ 3 _ rfl (by decide) _ rfl).mono (Nat.zero_le _))
      have A18 : Hid (Aft u17 u18) := Lib.hid (by rw [hu18]; exact Aft.one _)
      rw [← hp18, ← hu18]
      clear hp18 hu18
      have B18 := Lib.hid (Aft.trans B17.out A18.out)
      refine hK.out _ _ (HX.out _ B18.out).1 (fun hHeld18 => ?_)
      clear hK K
      try simp only [Act.put, List.getElem_toArray, List.getElem_cons_zero, List.getElem_cons_succ, List.setIfInBounds_toArray, List.set_cons_zero, List.set_cons_succ]
      exact HJ _ _ _ ⟨F47.out.below A18.out, F48.out, B18.out⟩
    refine AllReadyH.cons rfl (fun K hK => ?b48) ?c48
    case b48 =>
      go_simp
      obtain ⟨p19, hp19⟩ : ∃ p : Option Addr, p = some ⟨u16.heap.size, 0, none⟩ := ⟨_, rfl⟩
      obtain ⟨u19, hu19⟩ : ∃ U, U = u16.alloc (.cells #[.int .i64 1, .int .i64 5] 3) := ⟨_, rfl⟩
      have F48 : Hid (Ints 0 u19 (.slice p19 2 2) [1, 5]) := Lib.hid (by rw [hp19, hu19]; exact (lit_ints [1, 5] _ 3 _ rfl (by decide) _ rfl).mono (Nat.zero_le _))
      have A19 : Hid (Aft u16 u19) := Lib.hid (by rw [hu19]; exact Aft.one _)
      rw [← hp19, ← hu19]
      clear hp19 hu19
      have B19 := Lib.hid (Aft.trans B16.out A19.out)
      refine hK.out _ _ (HX.out _ B19.out).1 (fun hHeld19 => ?_)
      clear hK K
      try simp only [Act.put, List.getElem_toArray, List.getElem_cons_zero, List.getElem_cons_succ, List.setIfInBounds_toArray, List.set_cons_zero, List.set_cons_succ]
      refine wpAnyH_ready (rs := [47]) (by as_aux_lemma => kernel_rfl) (by simp) ?_
      refine AllReadyH.cons rfl (fun K hK => ?_) AllReadyH.nil
      go_simp
      refine (k_touched 3 true [1, 5] (HX.out _ B19.out).2 (by decide) f_tch).mono ?_
      rintro e u20 ⟨x20, rfl, hx, hb⟩
      have F47 : Hid (Ints 0 u20 x20 [1, 5]) := Lib.hid hx
      have hb47 := hb
      have B20 := Lib.hid (Aft.trans B19.out hb)
      clear hb hx
      refine hK.out _ _ (HX.out _ B20.out).1 (fun hHeld20 => ?_)
      clear hK K
      try simp only [Act.put, List.getElem_toArray, List.getElem_cons_zero, List.getElem_cons_succ, List.setIfInBounds_toArray, List.set_cons_zero, List.set_cons_succ]
      rw [Array.setIfInBounds_comm _ _ (show 48 ≠ 47 by decide)]
      exact HJ _ _ _ ⟨F47.out, F48.out.below hb47, B20.out⟩
    exact AllReadyH.nil
  rintro x21 p21 u21 ⟨h1, h2, h3⟩
  have FJ := Lib.hid (And.intro h1 h2)
  have B21 := Lib.hid h3
  have hHeld21 := (HX.out _ h3).1
  clear h1 h2 h3
  refine wpAnyH_ready (rs := [49]) (by as_aux_lemma => kernel_rfl) (by simp) ?_
  refine AllReadyH.cons rfl (fun K hK => ?_) AllReadyH.nil
  go_simp
  refine (k_sameI FJ.out.1 FJ.out.2).mono ?_
  rintro e u22 ⟨rfl, hb⟩
  have B22 := Lib.hid (Aft.trans B21.out hb)
  clear hb
  refine hK.out _ _ (HX.out _ B22.out).1 (fun hHeld22 => ?_)
  clear hK K
  try simp only [Act.put, List.getElem_toArray, List.getElem_cons_zero, List.getElem_cons_succ, List.setIfInBounds_toArray, List.set_cons_zero, List.set_cons_succ]
  refine wpAnyH_take (i := 50) (v := ?_) rfl (by as_aux_lemma => kernel_rfl) (by as_aux_lemma => kernel_rfl) (by as_aux_lemma => kernel_rfl) (fun _ _ _ h => h) (Or.inl ⟨by as_aux_lemma => rfl, ?yt50⟩) (by assumption) ?qt50
  case yt50 => (intro wz hSw; (try dsimp only at hSw); go_simp <;> with_reducible rfl)
  try simp only [Act.put, List.getElem_toArray, List.getElem_cons_zero, List.getElem_cons_succ, List.setIfInBounds_toArray, List.set_cons_zero, List.set_cons_succ]
  refine wpAnyH_take (i := 51) (v := ?_) rfl (by as_aux_lemma => kernel_rfl) (by as_aux_lemma => kernel_rfl) (by as_aux_lemma => kernel_rfl) (fun _ _ _ h => h) (Or.inl ⟨by as_aux_lemma => rfl, ?yt51⟩) (by assumption) ?qt51
  case yt51 => (intro wz hSw; (try dsimp only at hSw); go_simp <;> with_reducible rfl)
  try simp only [Act.put, List.getElem_toArray, List.getElem_cons_zero, List.getElem_cons_succ, List.setIfInBounds_toArray, List.set_cons_zero, List.set_cons_succ]
  refine wpAnyH_take (i := 52) (v := ?_) rfl (by as_aux_lemma => kernel_rfl) (by as_aux_lemma => kernel_rfl) (by as_aux_lemma => kernel_rfl) (fun _ _ _ h => h) (Or.inl ⟨by as_aux_lemma => rfl, ?yt52⟩) (by assumption) ?qt52
  case yt52 => (intro wz hSw; (try dsimp only at hSw); go_simp <;> with_reducible rfl)
  try simp only [Act.put, List.getElem_toArray, List.getElem_cons_zero, List.getElem_cons_succ, List.setIfInBounds_toArray, List.set_cons_zero, List.set_cons_succ]
  refine wpAnyH_take (i := 54) (v := ?_) rfl (by as_aux_lemma => kernel_rfl) (by as_aux_lemma => kernel_rfl) (by as_aux_lemma => kernel_rfl) (fun _ _ _ h => h) (Or.inl ⟨by as_aux_lemma => rfl, ?yt54⟩) (by assumption) ?qt54
  case yt54 => (intro wz hSw; (try dsimp only at hSw); go_simp <;> with_reducible rfl)
  try simp only [Act.put, List.getElem_toArray, List.getElem_cons_zero, List.getElem_cons_succ, List.setIfInBounds_toArray, List.set_cons_zero, List.set_cons_succ]
  refine joinG (fun (x : Value) (p : Option Addr) (u : World) => Vers 0 u x [⟨2, 1, 1⟩] ∧ Vers 0 u (.slice p 1 1) [⟨2, 1, 1⟩] ∧ Aft X0 u) ?G53 (fun HJ => ?f53) ?r53
  case f53 =>
    refine wpAnyH_ready (rs := [53, 55]) (by as_aux_lemma => kernel_rfl) (by simp) ?_
    refine AllReadyH.cons rfl (fun K hK => ?b53) ?c53
    case b53 =>
      go_simp
      refine (k_needs 3 true [⟨2, 1, 1⟩] (HX.out _ B22.out).2 L4_ok (by decide) f_needs).mono ?_
      rintro e u23 ⟨x23, rfl, hx, hb⟩
      have F53 : Hid (Vers 0 u23 x23 [⟨2, 1, 1⟩]) := Lib.hid hx
      have hb53 := hb
      have B23 := Lib.hid (Aft.trans B22.out hb)
      clear hb hx
      refine hK.out _ _ (HX.out _ B23.out).1 (fun hHeld23 => ?_)
      clear hK K
      try simp only [Act.put, List.getElem_toArray, List.getElem_cons_zero, List.getElem_cons_succ, List.setIfInBounds_toArray, List.set_cons_zero, List.set_cons_succ]
      refine wpAnyH_ready (rs := [55]) (by as_aux_lemma => kernel_rfl) (by simp) ?_
      refine AllReadyH.cons rfl (fun K hK => ?_) AllReadyH.nil
      go_simp
      obtain ⟨p24, hp24⟩ : ∃ p : Option Addr, p = some ⟨u23.heap.size, 0, none⟩ := ⟨_, rfl⟩
      obtain ⟨u24, hu24⟩ : ∃ U, U = u23.alloc (.cells #[.int .i64 2, .int .i64 1, .int .i64 1] 42) := ⟨_, rfl⟩
      have F55 : Hid (Vers 0 u24 (.slice p24 1 1) [⟨2, 1, 1⟩]) := Lib.hid (by rw [hp24, hu24]; exact own_ver [⟨2, 1, 1⟩] rfl (heap_alloc_at _ _ _ rfl) (by decide) 1 rfl)
      have A24 : Hid (Aft u23 u24) := Lib.hid (by rw [hu24]; exact Aft.one _)
      rw [← hp24, ← hu24]
      clear hp24 hu24
      have B24 := Lib.hid (Aft.trans B23.out A24.out)
      refine hK.out _ _ (HX.out _ B24.out).1 (fun hHeld24 => ?_)
      clear hK K
      try simp only [Act.put, List.getElem_toArray, List.getElem_cons_zero, List.getElem_cons_succ, List.setIfInBounds_toArray, List.set_cons_zero, List.set_cons_succ]
      exact HJ _ _ _ ⟨F53.out.below A24.out, F55.out, B24.out⟩
    refine AllReadyH.cons rfl (fun K hK => ?b55) ?c55
    case b55 =>
      go_simp
      obtain ⟨p25, hp25⟩ : ∃ p : Option Addr, p = some ⟨u22.heap.size, 0, none⟩ := ⟨_, rfl⟩
      obtain ⟨u25, hu25⟩ : ∃ U, U = u22.alloc (.cells #[.int .i64 2, .int .i64 1, .int .i64 1] 42) := ⟨_, rfl⟩
      have F55 : Hid (Vers 0 u25 (.slice p25 1 1) [⟨2, 1, 1⟩]) := Lib.hid (by rw [hp25, hu25]; exact own_ver [⟨2, 1, 1⟩] rfl (heap_alloc_at _ _ _ rfl) (by decide) 1 rfl)
      have A25 : Hid (Aft u22 u25) := Lib.hid (by rw [hu25]; exact Aft.one _)
      rw [← hp25, ← hu25]
      clear hp25 hu25
      have B25 := Lib.hid (Aft.trans B22.out A25.out)
      refine hK.out _ _ (HX.out _ B25.out).1 (fun hHeld25 => ?_)
      clear hK K
      try simp only [Act.put, List.getElem_toArray, List.getElem_cons_zero, List.getElem_cons_succ, List.setIfInBounds_toArray, List.set_cons_zero, List.set_cons_succ]
      refine wpAnyH_ready (rs := [53]) (by as_aux_lemma => kernel_rfl) (by simp) ?_
      refine AllReadyH.cons rfl (fun K hK => ?_) AllReadyH.nil
      go_simp
      refine (k_needs 3 true [⟨2, 1, 1⟩] (HX.out _ B25.out).2 L4_ok (by decide) f_needs).mono ?_
      rintro e u26 ⟨x26, rfl, hx, hb⟩
      have F53 : Hid (Vers 0 u26 x26 [⟨2, 1, 1⟩]) := Lib.hid hx
      have hb53 := hb
      have B26 := Lib.hid (Aft.trans B25.out hb)
      clear hb hx
      refine hK.out _ _ (HX.out _ B26.out).1 (fun hHeld26 => ?_)
      clear hK K
      try simp only [Act.put, List.getElem_toArray, List.getElem_cons_zero, List.getElem_cons_succ, List.setIfInBounds_toArray, List.set_cons_zero, List.set_cons_succ]
      rw [Array.setIfInBounds_comm _ _ (show 55 ≠ 53 by decide)]
      exact HJ _ _ _ ⟨F53.out, F55.out.below hb53, B26.out⟩
    exact AllReadyH.nil
  rintro x27 p27 u27 ⟨h1, h2, h3⟩
  have FJ := Lib.hid (And.intro h1 h2)
  have B27 := Lib.hid h3
  have hHeld27 := (HX.out _ h3).1
  clear h1 h2 h3
  refine wpAnyH_ready (rs := [56]) (by as_aux_lemma => kernel_rfl) (by simp) ?_
  refine AllReadyH.cons rfl (fun K hK => ?_) AllReadyH.nil
  go_simp
  refine (k_sameV FJ.out.1 FJ.out.2 (by decide)).mono ?_
  rintro e u28 ⟨rfl, hb⟩
  have B28 := Lib.hid (Aft.trans B27.out hb)
  clear hb
  refine hK.out _ _ (HX.out _ B28.out).1 (fun hHeld28 => ?_)
  clear hK K
  try simp only [Act.put, List.getElem_toArray, List.getElem_cons_zero, List.getElem_cons_succ, List.setIfInBounds_toArray, List.set_cons_zero, List.set_cons_succ]
  refine wpAnyH_take (i := 57) (v := ?_) rfl (by as_aux_lemma => kernel_rfl) (by as_aux_lemma => kernel_rfl) (by as_aux_lemma => kernel_rfl) (fun _ _ _ h => h) (Or.inl ⟨by as_aux_lemma => rfl, ?yt57⟩) (by assumption) ?qt57
  case yt57 => (intro wz hSw; (try dsimp only at hSw); go_simp <;> with_reducible rfl)
  try simp only [Act.put, List.getElem_toArray, List.getElem_cons_zero, List.getElem_cons_succ, List.setIfInBounds_toArray, List.set_cons_zero, List.set_cons_succ]
  refine wpAnyH_take (i := 58) (v := ?_) rfl (by as_aux_lemma => kernel_rfl) (by as_aux_lemma => kernel_rfl) (by as_aux_lemma => kernel_rfl) (fun _ _ _ h => h) (Or.inl ⟨by as_aux_lemma => rfl, ?yt58⟩) (by assumption) ?qt58
  case yt58 => (intro wz hSw; (try dsimp only at hSw); go_simp <;> with_reducible rfl)
  try simp only [Act.put, List.getElem_toArray, List.getElem_cons_zero, List.getElem_cons_succ, List.setIfInBounds_toArray, List.set_cons_zero, List.set_cons_succ]
  refine wpAnyH_take (i := 59) (v := ?_) rfl (by as_aux_lemma => kernel_rfl) (by as_aux_lemma => kernel_rfl) (by as_aux_lemma => kernel_rfl) (fun _ _ _ h => h) (Or.inl ⟨by as_aux_lemma => rfl, ?yt59⟩) (by assumption) ?qt59
  case yt59 => (intro wz hSw; (try dsimp only at hSw); go_simp <;> with_reducible rfl)
  try simp only [Act.put, List.getElem_toArray, List.getElem_cons_zero, List.getElem_cons_succ, List.setIfInBounds_toArray, List.set_cons_zero, List.set_cons_succ]
  refine wpAnyH_ready (rs := [60]) (by as_aux_lemma => kernel_rfl) (by simp) ?_
  refine AllReadyH.cons rfl (fun K hK => ?_) AllReadyH.nil
  go_simp
  refine (k_weight 3 true 5 (HX.out _ B28.out).2 (by decide) (by decide)).mono ?_
  rintro e u29 ⟨rfl, hb⟩
  have B29 := Lib.hid (Aft.trans B28.out hb)
  clear hb
  refine hK.out _ _ (HX.out _ B29.out).1 (fun hHeld29 => ?_)
  clear hK K
  try simp only [Act.put, List.getElem_toArray, List.getElem_cons_zero, List.getElem_cons_succ, List.setIfInBounds_toArray, List.set_cons_zero, List.set_cons_succ]
  refine wpAnyH_take (i := 61) (v := ?_) rfl (by as_aux_lemma => kernel_rfl) (by as_aux_lemma => kernel_rfl) (by as_aux_lemma => kernel_rfl) (fun _ _ _ h => h) (Or.inl ⟨by as_aux_lemma => rfl, ?yt61⟩) (by assumption) ?qt61
  case yt61 => (intro wz hSw; (try dsimp only at hSw); go_simp <;> with_reducible rfl)
  try simp only [Act.put, List.getElem_toArray, List.getElem_cons_zero, List.getElem_cons_succ, List.setIfInBounds_toArray, List.set_cons_zero, List.set_cons_succ]
  refine wpAnyH_take (i := 62) (v := ?_) rfl (by as_aux_lemma => kernel_rfl) (by as_aux_lemma => kernel_rfl) (by as_aux_lemma => kernel_rfl) (fun _ _ _ h => h) (Or.inl ⟨by as_aux_lemma => rfl, ?yt62⟩) (by assumption) ?qt62
  case yt62 => (intro wz hSw; (try dsimp only at hSw); go_simp <;> with_reducible rfl)
  try simp only [Act.put, List.getElem_toArray, List.getElem_cons_zero, List.getElem_cons_succ, List.setIfInBounds_toArray, List.set_cons_zero, List.set_cons_succ]
  refine wpAnyH_take (i := 63) (v := ?_) rfl (by as_aux_lemma => kernel_rfl) (by as_aux_lemma => kernel_rfl) (by as_aux_lemma => kernel_rfl) (fun _ _ _ h => h) (Or.inl ⟨by as_aux_lemma => rfl, ?yt63⟩) (by assumption) ?qt63
  case yt63 => (intro wz hSw; (try dsimp only at hSw); go_simp <;> with_reducible rfl)
  try simp only [Act.put, List.getElem_toArray, List.getElem_cons_zero, List.getElem_cons_succ, List.setIfInBounds_toArray, List.set_cons_zero, List.set_cons_succ]
  refine wpAnyH_take (i := 64) (v := ?_) rfl (by as_aux_lemma => kernel_rfl) (by as_aux_lemma => kernel_rfl) (by as_aux_lemma => kernel_rfl) (fun _ _ _ h => h) (Or.inl ⟨by as_aux_lemma => rfl, ?yt64⟩) (by assumption) ?qt64
  case yt64 => (intro wz hSw; (try dsimp only at hSw); go_simp <;> with_reducible rfl)
  try simp only [Act.put, List.getElem_toArray, List.getElem_cons_zero, List.getElem_cons_succ, List.setIfInBounds_toArray, List.set_cons_zero, List.set_cons_succ]
  refine wpAnyH_ready (rs := [65]) (by as_aux_lemma => kernel_rfl) (by simp) ?_
  refine AllReadyH.cons rfl (fun K hK => ?_) AllReadyH.nil
  go_simp
  refine (k_text 3 true (HPW.out.below (HA0.out.trans B29.out)) (HX.out _ B29.out).2 (by omega) L4_ok (by decide) #[51, 32, 99, 32, 119, 53, 32, 114, 53, 64, 51, 46, 49, 32, 114, 49, 64, 50, 46, 49, 32, 114, 49, 64, 50, 46, 49] f_text).mono ?_
  rintro e u30 ⟨rfl, hb⟩
  have B30 := Lib.hid (Aft.trans B29.out hb)
  clear hb
  refine hK.out _ _ (HX.out _ B30.out).1 (fun hHeld30 => ?_)
  clear hK K
  try simp only [Act.put, List.getElem_toArray, List.getElem_cons_zero, List.getElem_cons_succ, List.setIfInBounds_toArray, List.set_cons_zero, List.set_cons_succ]
  refine wpAnyH_take (i := 66) (v := ?_) rfl (by as_aux_lemma => kernel_rfl) (by as_aux_lemma => kernel_rfl) (by as_aux_lemma => kernel_rfl) (fun _ _ _ h => h) (Or.inl ⟨by as_aux_lemma => rfl, ?yt66⟩) (by assumption) ?qt66
  case yt66 => (intro wz hSw; (try dsimp only at hSw); go_simp <;> with_reducible rfl)
  try simp only [Act.put, List.getElem_toArray, List.getElem_cons_zero, List.getElem_cons_succ, List.setIfInBounds_toArray, List.set_cons_zero, List.set_cons_succ]
  refine wpAnyH_take (i := 67) (v := ?_) rfl (by as_aux_lemma => kernel_rfl) (by as_aux_lemma => kernel_rfl) (by as_aux_lemma => kernel_rfl) (fun _ _ _ h => h) (Or.inl ⟨by as_aux_lemma => rfl, ?yt67⟩) (by assumption) ?qt67
  case yt67 => (intro wz hSw; (try dsimp only at hSw); go_simp <;> with_reducible rfl)
  try simp only [Act.put, List.getElem_toArray, List.getElem_cons_zero, List.getElem_cons_succ, List.setIfInBounds_toArray, List.set_cons_zero, List.set_cons_succ]
  refine wpAnyH_take (i := 68) (v := ?_) rfl (by as_aux_lemma => kernel_rfl) (by as_aux_lemma => kernel_rfl) (by as_aux_lemma => kernel_rfl) (fun _ _ _ h => h) (Or.inl ⟨by as_aux_lemma => rfl, ?yt68⟩) (by assumption) ?qt68
  case yt68 => (intro wz hSw; (try dsimp only at hSw); go_simp <;> with_reducible rfl)
  try simp only [Act.put, List.getElem_toArray, List.getElem_cons_zero, List.getElem_cons_succ, List.setIfInBounds_toArray, List.set_cons_zero, List.set_cons_succ]
  refine wpAnyH_take (i := 69) (v := ?_) rfl (by as_aux_lemma => kernel_rfl) (by as_aux_lemma => kernel_rfl) (by as_aux_lemma => kernel_rfl) (fun _ _ _ h => h) (Or.inl ⟨by as_aux_lemma => rfl, ?yt69⟩) (by assumption) ?qt69
  case yt69 => (intro wz hSw; (try dsimp only at hSw); go_simp <;> with_reducible rfl)
  try simp only [Act.put, List.getElem_toArray, List.getElem_cons_zero, List.getElem_cons_succ, List.setIfInBounds_toArray, List.set_cons_zero, List.set_cons_succ]
  refine wpAnyH_ready (rs := [70]) (by as_aux_lemma => kernel_rfl) (by simp) ?_
  refine AllReadyH.cons rfl (fun K hK => ?_) AllReadyH.nil
  go_simp
  refine (k_text 7 false (HPW.out.below (HA0.out.trans B30.out)) (Oprs_nil _) (by omega) (fun x hx => by cases hx) (by decide) #[55, 32, 97] f_text7).mono ?_
  rintro e u31 ⟨rfl, hb⟩
  have B31 := Lib.hid (Aft.trans B30.out hb)
  clear hb
  refine hK.out _ _ (HX.out _ B31.out).1 (fun hHeld31 => ?_)
  clear hK K
  try simp only [Act.put, List.getElem_toArray, List.getElem_cons_zero, List.getElem_cons_succ, List.setIfInBounds_toArray, List.set_cons_zero, List.set_cons_succ]
  refine wpAnyH_take (i := 71) (v := ?_) rfl (by as_aux_lemma => kernel_rfl) (by as_aux_lemma => kernel_rfl) (by as_aux_lemma => kernel_rfl) (fun _ _ _ h => h) (Or.inl ⟨by as_aux_lemma => rfl, ?yt71⟩) (by assumption) ?qt71
  case yt71 => (intro wz hSw; (try dsimp only at hSw); go_simp <;> with_reducible rfl)
  try simp only [Act.put, List.getElem_toArray, List.getElem_cons_zero, List.getElem_cons_succ, List.setIfInBounds_toArray, List.set_cons_zero, List.set_cons_succ]
  refine wpAnyH_take (i := 72) (v := ?_) rfl (by as_aux_lemma => kernel_rfl) (by as_aux_lemma => kernel_rfl) (by as_aux_lemma => kernel_rfl) (fun _ _ _ h => h) (Or.inl ⟨by as_aux_lemma => rfl, ?yt72⟩) (by assumption) ?qt72
  case yt72 => (intro wz hSw; (try dsimp only at hSw); go_simp <;> with_reducible rfl)
  try simp only [Act.put, List.getElem_toArray, List.getElem_cons_zero, List.getElem_cons_succ, List.setIfInBounds_toArray, List.set_cons_zero, List.set_cons_succ]
  refine wpAnyH_take (i := 73) (v := ?_) rfl (by as_aux_lemma => kernel_rfl) (by as_aux_lemma => kernel_rfl) (by as_aux_lemma => kernel_rfl) (fun _ _ _ h => h) (Or.inl ⟨by as_aux_lemma => rfl, ?yt73⟩) (by assumption) ?qt73
  case yt73 => (intro wz hSw; (try dsimp only at hSw); go_simp <;> with_reducible rfl)
  try simp only [Act.put, List.getElem_toArray, List.getElem_cons_zero, List.getElem_cons_succ, List.setIfInBounds_toArray, List.set_cons_zero, List.set_cons_succ]
  refine wpAnyH_take (i := 74) (v := ?_) rfl (by as_aux_lemma => kernel_rfl) (by as_aux_lemma => kernel_rfl) (by as_aux_lemma => kernel_rfl) (fun _ _ _ h => h) (Or.inl ⟨by as_aux_lemma => rfl, ?yt74⟩) (by assumption) ?qt74
  case yt74 => (intro wz hSw; (try dsimp only at hSw); go_simp <;> with_reducible rfl)
  try simp only [Act.put, List.getElem_toArray, List.getElem_cons_zero, List.getElem_cons_succ, List.setIfInBounds_toArray, List.set_cons_zero, List.set_cons_succ]
  refine wpAnyH_take (i := 75) (v := ?_) rfl (by as_aux_lemma => kernel_rfl) (by as_aux_lemma => kernel_rfl) (by as_aux_lemma => kernel_rfl) (fun _ _ _ h => h) (Or.inl ⟨by as_aux_lemma => rfl, ?yt75⟩) (by assumption) ?qt75
  case yt75 => (intro wz hSw; (try dsimp only at hSw); go_simp <;> with_reducible rfl)
  try simp only [Act.put, List.getElem_toArray, List.getElem_cons_zero, List.getElem_cons_succ, List.setIfInBounds_toArray, List.set_cons_zero, List.set_cons_succ]
  refine wpAnyH_ready (rs := [76]) (by as_aux_lemma => kernel_rfl) (by simp) ?_
  refine AllReadyH.cons rfl (fun K hK => ?_) AllReadyH.nil
  go_simp
  refine (k_same 3 3 true true true (HX.out _ B31.out).2 (HX.out _ B31.out).2 f_same).mono ?_
  rintro e u32 ⟨rfl, hb⟩
  have B32 := Lib.hid (Aft.trans B31.out hb)
  clear hb
  refine hK.out _ _ (HX.out _ B32.out).1 (fun hHeld32 => ?_)
  clear hK K
  try simp only [Act.put, List.getElem_toArray, List.getElem_cons_zero, List.getElem_cons_succ, List.setIfInBounds_toArray, List.set_cons_zero, List.set_cons_succ]
  refine wpAnyH_take (i := 77) (v := ?_) rfl (by as_aux_lemma => kernel_rfl) (by as_aux_lemma => kernel_rfl) (by as_aux_lemma => kernel_rfl) (fun _ _ _ h => h) (Or.inl ⟨by as_aux_lemma => rfl, ?yt77⟩) (by assumption) ?qt77
  case yt77 => (intro wz hSw; (try dsimp only at hSw); go_simp <;> with_reducible rfl)
  try simp only [Act.put, List.getElem_toArray, List.getElem_cons_zero, List.getElem_cons_succ, List.setIfInBounds_toArray, List.set_cons_zero, List.set_cons_succ]
  refine wpAnyH_take (i := 78) (v := ?_) rfl (by as_aux_lemma => kernel_rfl) (by as_aux_lemma => kernel_rfl) (by as_aux_lemma => kernel_rfl) (fun _ _ _ h => h) (Or.inl ⟨by as_aux_lemma => rfl, ?yt78⟩) (by assumption) ?qt78
  case yt78 => (intro wz hSw; (try dsimp only at hSw); go_simp <;> with_reducible rfl)
  try simp only [Act.put, List.getElem_toArray, List.getElem_cons_zero, List.getElem_cons_succ, List.setIfInBounds_toArray, List.set_cons_zero, List.set_cons_succ]
  refine wpAnyH_take (i := 79) (v := ?_) rfl (by as_aux_lemma => kernel_rfl) (by as_aux_lemma => kernel_rfl) (by as_aux_lemma => kernel_rfl) (fun _ _ _ h => h) (Or.inl ⟨by as_aux_lemma => rfl, ?yt79⟩) (by assumption) ?qt79
  case yt79 => (intro wz hSw; (try dsimp only at hSw); go_simp <;> with_reducible rfl)
  try simp only [Act.put, List.getElem_toArray, List.getElem_cons_zero, List.getElem_cons_succ, List.setIfInBounds_toArray, List.set_cons_zero, List.set_cons_succ]
  refine wpAnyH_take (i := 80) (v := ?_) rfl (by as_aux_lemma => kernel_rfl) (by as_aux_lemma => kernel_rfl) (by as_aux_lemma => kernel_rfl) (fun _ _ _ h => h) (Or.inl ⟨by as_aux_lemma => rfl, ?yt80⟩) (by assumption) ?qt80
  case yt80 => (intro wz hSw; (try dsimp only at hSw); go_simp <;> with_reducible rfl)
  try simp only [Act.put, List.getElem_toArray, List.getElem_cons_zero, List.getElem_cons_succ, List.setIfInBounds_toArray, List.set_cons_zero, List.set_cons_succ]
  refine wpAnyH_ready (rs := [81]) (by as_aux_lemma => kernel_rfl) (by simp) ?_
  refine AllReadyH.cons rfl (fun K hK => ?_) AllReadyH.nil
  go_simp
  refine (k_bare 3 true [⟨false, 5, 0, 0⟩] (HX.out _ B32.out).2 (by decide) f_bare 1 rfl).mono ?_
  rintro e u33 ⟨p81, c81, rfl, hx, hb⟩
  have F81 := Lib.hid hx
  have B33 := Lib.hid (Aft.trans B32.out hb)
  clear hb hx
  refine hK.out _ _ (HX.out _ B33.out).1 (fun hHeld33 => ?_)
  clear hK K
  try simp only [Act.put, List.getElem_toArray, List.getElem_cons_zero, List.getElem_cons_succ, List.setIfInBounds_toArray, List.set_cons_zero, List.set_cons_succ]
  refine wpAnyH_ready (rs := [82]) (by as_aux_lemma => kernel_rfl) (by simp) ?_
  refine AllReadyH.cons rfl (fun K hK => ?_) AllReadyH.nil
  go_simp
  refine (k_same 3 3 true true false (HX.out _ B33.out).2 F81.out f_nsame).mono ?_
  rintro e u34 ⟨rfl, hb⟩
  have B34 := Lib.hid (Aft.trans B33.out hb)
  clear hb
  refine hK.out _ _ (HX.out _ B34.out).1 (fun hHeld34 => ?_)
  clear hK K
  try simp only [Act.put, List.getElem_toArray, List.getElem_cons_zero, List.getElem_cons_succ, List.setIfInBounds_toArray, List.set_cons_zero, List.set_cons_succ]
  refine wpAnyH_take (i := 83) (v := ?_) rfl (by as_aux_lemma => kernel_rfl) (by as_aux_lemma => kernel_rfl) (by as_aux_lemma => kernel_rfl) (fun _ _ _ h => h) (Or.inl ⟨by as_aux_lemma => rfl, ?yt83⟩) (by assumption) ?qt83
  case yt83 => (intro wz hSw; (try dsimp only at hSw); go_simp <;> with_reducible rfl)
  try simp only [Act.put, List.getElem_toArray, List.getElem_cons_zero, List.getElem_cons_succ, List.setIfInBounds_toArray, List.set_cons_zero, List.set_cons_succ]
  refine wpAnyH_take (i := 84) (v := ?_) rfl (by as_aux_lemma => kernel_rfl) (by as_aux_lemma => kernel_rfl) (by as_aux_lemma => kernel_rfl) (fun _ _ _ h => h) (Or.inl ⟨by as_aux_lemma => rfl, ?yt84⟩) (by assumption) ?qt84
  case yt84 => (intro wz hSw; (try dsimp only at hSw); go_simp <;> with_reducible rfl)
  try simp only [Act.put, List.getElem_toArray, List.getElem_cons_zero, List.getElem_cons_succ, List.setIfInBounds_toArray, List.set_cons_zero, List.set_cons_succ]
  refine wpAnyH_take (i := 85) (v := ?_) rfl (by as_aux_lemma => kernel_rfl) (by as_aux_lemma => kernel_rfl) (by as_aux_lemma => kernel_rfl) (fun _ _ _ h => h) (Or.inl ⟨by as_aux_lemma => rfl, ?yt85⟩) (by assumption) ?qt85
  case yt85 => (intro wz hSw; (try dsimp only at hSw); go_simp <;> with_reducible rfl)
  try simp only [Act.put, List.getElem_toArray, List.getElem_cons_zero, List.getElem_cons_succ, List.setIfInBounds_toArray, List.set_cons_zero, List.set_cons_succ]
  refine wpAnyH_take (i := 86) (v := ?_) rfl (by as_aux_lemma => kernel_rfl) (by as_aux_lemma => kernel_rfl) (by as_aux_lemma => kernel_rfl) (fun _ _ _ h => h) (Or.inl ⟨by as_aux_lemma => rfl, ?yt86⟩) (by assumption) ?qt86
  case yt86 => (intro wz hSw; (try dsimp only at hSw); go_simp <;> with_reducible rfl)
  try simp only [Act.put, List.getElem_toArray, List.getElem_cons_zero, List.getElem_cons_succ, List.setIfInBounds_toArray, List.set_cons_zero, List.set_cons_succ]
  refine wpAnyH_ready (rs := [87]) (by as_aux_lemma => kernel_rfl) (by simp) ?_
  refine AllReadyH.cons rfl (fun K hK => ?_) AllReadyH.nil
  go_simp
  refine (k_bare 3 true [⟨false, 5, 0, 0⟩] (HX.out _ B34.out).2 (by decide) f_bare 1 rfl).mono ?_
  rintro e u35 ⟨p87, c87, rfl, hx, hb⟩
  have F87 := Lib.hid hx
  have B35 := Lib.hid (Aft.trans B34.out hb)
  clear hb hx
  refine hK.out _ _ (HX.out _ B35.out).1 (fun hHeld35 => ?_)
  clear hK K
  try simp only [Act.put, List.getElem_toArray, List.getElem_cons_zero, List.getElem_cons_succ, List.setIfInBounds_toArray, List.set_cons_zero, List.set_cons_succ]
  refine wpAnyH_take (i := 88) (v := ?_) rfl (by as_aux_lemma => kernel_rfl) (by as_aux_lemma => kernel_rfl) (by as_aux_lemma => kernel_rfl) (fun _ _ _ h => h) (Or.inl ⟨by as_aux_lemma => rfl, ?yt88⟩) (by assumption) ?qt88
  case yt88 => (intro wz hSw; (try dsimp only at hSw); have hfl := fld_ops 3 true p87 1 c87 wz; go_simp <;> with_reducible rfl)
  try simp only [Act.put, List.getElem_toArray, List.getElem_cons_zero, List.getElem_cons_succ, List.setIfInBounds_toArray, List.set_cons_zero, List.set_cons_succ]
  refine wpAnyH_take (i := 89) (v := ?_) rfl (by as_aux_lemma => kernel_rfl) (by as_aux_lemma => kernel_rfl) (by as_aux_lemma => kernel_rfl) (fun _ _ _ h => h) (Or.inl ⟨by as_aux_lemma => rfl, ?yt89⟩) (by assumption) ?qt89
  case yt89 => (intro wz hSw; (try dsimp only at hSw); go_simp <;> with_reducible rfl)
  try simp only [Act.put, List.getElem_toArray, List.getElem_cons_zero, List.getElem_cons_succ, List.setIfInBounds_toArray, List.set_cons_zero, List.set_cons_succ]
  refine wpAnyH_take (i := 90) (v := ?_) rfl (by as_aux_lemma => kernel_rfl) (by as_aux_lemma => kernel_rfl) (by as_aux_lemma => kernel_rfl) (fun _ _ _ h => h) (Or.inl ⟨by as_aux_lemma => rfl, ?yt90⟩) (by assumption) ?qt90
  case yt90 => (intro wz hSw; (try dsimp only at hSw); go_simp <;> with_reducible rfl)
  try simp only [Act.put, List.getElem_toArray, List.getElem_cons_zero, List.getElem_cons_succ, List.setIfInBounds_toArray, List.set_cons_zero, List.set_cons_succ]
  refine wpAnyH_take (i := 91) (v := ?_) rfl (by as_aux_lemma => kernel_rfl) (by as_aux_lemma => kernel_rfl) (by as_aux_lemma => kernel_rfl) (fun _ _ _ h => h) (Or.inl ⟨by as_aux_lemma => rfl, ?yt91⟩) (by assumption) ?qt91
  case yt91 => (intro wz hSw; (try dsimp only at hSw); go_simp <;> with_reducible rfl)
  try simp only [Act.put, List.getElem_toArray, List.getElem_cons_zero, List.getElem_cons_succ, List.setIfInBounds_toArray, List.set_cons_zero, List.set_cons_succ]
  refine wpAnyH_take (i := 92) (v := ?_) rfl (by as_aux_lemma => kernel_rfl) (by as_aux_lemma => kernel_rfl) (by as_aux_lemma => kernel_rfl) (fun _ _ _ h => h) (Or.inl ⟨by as_aux_lemma => rfl, ?yt92⟩) (by assumption) ?qt92
  case yt92 => (intro wz hSw; (try dsimp only at hSw); go_simp <;> with_reducible rfl)
  try simp only [Act.put, List.getElem_toArray, List.getElem_cons_zero, List.getElem_cons_succ, List.setIfInBounds_toArray, List.set_cons_zero]
  refine wpAnyH_done (by as_aux_lemma => kernel_rfl) ?_ _
  go_wp2_with fail
  exact HE.out _ B35.out
end Go.Proofs.YtaogofjnpnheeaaGreatDoor.Tx
